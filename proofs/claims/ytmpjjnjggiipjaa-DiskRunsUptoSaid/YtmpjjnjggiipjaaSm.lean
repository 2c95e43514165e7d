/- Are both disks one? Numbers and types by name. -/
import Derived.Test.YtmpjjnjggiipjaaDw
/- An act on both disks: Restart, Read, nothing. Numbers and types by name. -/
namespace Go.Proofs.Ytmpjjnjggiipjaa
open Go.RowKit Go.Maps Go.Sort Go.WideMaps

theorem code_restart {X : Nat → Prop} {w : World} {base b r : Nat} {M M2 : MD} (h : Both X w base b r M M2) (hl : Lim M) (cap cr : Int) (dn : Bool) (fl kp : Value) (zs ks : List Int) (hf : Reads w fl (iv zs)) (hk : Reads w kp (iv ks))
    (hfX : zs ≠ [] → ∀ a n c, fl = .slice (some a) n c → X a.block) (hkX : ks ≠ [] → ∀ a n c, kp = .slice (some a) n c → X a.block) (hz : zs.length ≤ 200) (hz2 : ks.length ≤ 200) :
    Calls Try.prog 15 #[theDisk b, .agg #[.int .i64 cap, fl, .int .i64 cr, .bool dn, kp]] w fun e w' => e = .returned (.tuple #[]) ∧ Both X w' base b r (M.restart cap cr dn zs ks) M2 ∧ Stays X w w' := by
  obtain ⟨h0, Fd, Fr, G, h1, h2, h3, h4⟩ := h
  refine (restart_cd base b M Fd cap cr dn fl kp zs ks w h1 hl hf hk (fun hz a n c e hm => (h3 _ hm).2.2 (hfX hz a n c e)) (fun hz a n c e hm => (h3 _ hm).2.2 (hkX hz a n c e)) (by omega) (by omega)).mono ?_
  rintro e w' ⟨rfl, hn⟩
  exact ⟨rfl, Both.code h0 h2 h3 h4 hn⟩

theorem blocks_of (X : Nat → Prop) (v : Value) (zs : List Int) (hX : zs ≠ [] → ∀ a n c, v = .slice (some a) n c → X a.block) : ∃ P : List Nat, (zs ≠ [] → ∀ a n c, v = .slice (some a) n c → a.block ∈ P) ∧ ∀ q ∈ P, X q := by
  by_cases hz : zs = []
  · exact ⟨[], fun h => absurd hz h, by simp⟩
  · by_cases hv : ∃ a n c, v = .slice (some a) n c
    · obtain ⟨a, n, c, rfl⟩ := hv
      exact ⟨[a.block], fun _ a' n' c' e => by cases e; simp, fun q hq => by simp only [List.mem_singleton] at hq; subst hq; exact hX hz a n c rfl⟩
    · exact ⟨[], fun _ a n c e => absurd ⟨a, n, c, e⟩ hv, by simp⟩

theorem ref_restart_both {X : Nat → Prop} {w : World} {base b r : Nat} {M M1 : MD} (h : Both X w base b r M1 M) (hl : Lim M) (cap cr : Int) (dn : Bool) (fl kp : Value) (zs ks : List Int) (hf : Reads w fl (iv zs)) (hk : Reads w kp (iv ks))
    (hfX : zs ≠ [] → ∀ a n c, fl = .slice (some a) n c → X a.block) (hkX : ks ≠ [] → ∀ a n c, kp = .slice (some a) n c → X a.block) :
    Calls Try.prog 28 #[theRef r, .agg #[.int .i64 cap, fl, .int .i64 cr, .bool dn, kp]] w fun e w' => e = .returned (.tuple #[]) ∧ Both X w' base b r M1 (M.restart cap cr dn zs ks) ∧ Stays X w w' := by
  obtain ⟨h0, Fd, Fr, G, h1, h2, h3, h4⟩ := h
  obtain ⟨P1, p1, q1⟩ := blocks_of X fl zs hfX
  obtain ⟨P2, p2, q2⟩ := blocks_of X kp ks hkX
  have hPX : ∀ q ∈ P1 ++ P2, X q := fun q hq => by
    rcases List.mem_append.1 hq with h | h
    · exact q1 q h
    · exact q2 q h
  refine (ref_restart r M Fr G cap cr dn fl kp zs ks w h2 hl hf hk (P1 ++ P2) (fun hz a n c e => List.mem_append.2 (.inl (p1 hz a n c e))) (fun hz a n c e => List.mem_append.2 (.inr (p2 hz a n c e))) (fun q hq => ⟨fun hm => h4 q hm (hPX q hq), h0 q (hPX q hq)⟩)).mono ?_
  rintro e w' ⟨rfl, hn⟩
  exact ⟨rfl, Both.refd h0 h1 h2 h3 h4 hPX hn⟩

set_option maxRecDepth 100000 in
set_option maxHeartbeats 4000000 in
theorem do_restart (N base b r : Nat) (M : MD) (nm to : ByteArray) (aB : Option Addr) (lB cB : Nat) (n cap : Int) (aF : Option Addr) (cF : Nat) (zs ks : List Int) (cr : Int) (dn : Bool) (aK : Option Addr) (cK : Nat) (w : World)
    (h : Both (· < N) w base b r M M) (hl : Lim M) (hf : Reads w (.slice aF zs.length cF) (iv zs)) (hk : Reads w (.slice aK ks.length cK) (iv ks))
    (hfX : zs ≠ [] → ∀ a n c, Value.slice aF zs.length cF = .slice (some a) n c → a.block < N) (hkX : ks ≠ [] → ∀ a n c, Value.slice aK ks.length cK = .slice (some a) n c → a.block < N) (hz : zs.length ≤ 200) (hz2 : ks.length ≤ 200) :
    Calls Try.prog 8 #[theDisk b, theRef r, actV 7 nm to (.slice aB lB cB) n cap (.slice aF zs.length cF) cr dn (.slice aK ks.length cK)] w fun e w' => e = .returned (.bool true) ∧
      Both (· < N) w' base b r (M.restart cap cr dn zs ks) (M.restart cap cr dn zs ks) ∧ Stays (· < N) w w' ∧ w.heap.size < w'.heap.size := by
  have HB := Lib.hid (h.box (actO 7 nm to (.slice aB lB cB) n cap (.slice aF zs.length cF) cr dn (.slice aK ks.length cK)))
  have HS : Hid (Stays (· < N) w (w.alloc (actO 7 nm to (.slice aB lB cB) n cap (.slice aF zs.length cF) cr dn (.slice aK ks.length cK))) ∧ w.heap.size < (w.alloc (actO 7 nm to (.slice aB lB cB) n cap (.slice aF zs.length cF) cr dn (.slice aK ks.length cK))).heap.size) := Lib.hid ⟨Stays.of_turn ((Turn.refl [] w).alloc _) fun q hq => ⟨h.1 q hq, by simp⟩, by simp⟩
  have HR := Lib.hid (And.intro hf (And.intro hk (And.intro hfX (And.intro hkX (And.intro hz (And.intro hz2 hl))))))
  clear h hl hf hk hfX hkX hz hz2
  unfold actO at HB HS
  unfold theDisk theRef actV
  go_enter Try.func8, Try.ntmps8
  go_wp2_with fail
  have HRB : Hid (Reads (w.alloc (.cells #[.int .i64 7, .string nm, .string to, .slice aB lB cB, .int .i64 n, .int .i64 cap, .slice aF zs.length cF, .int .i64 cr, .bool dn, .slice aK ks.length cK] 35)) (.slice aF zs.length cF) (iv zs) ∧ Reads (w.alloc (.cells #[.int .i64 7, .string nm, .string to, .slice aB lB cB, .int .i64 n, .int .i64 cap, .slice aF zs.length cF, .int .i64 cr, .bool dn, .slice aK ks.length cK] 35)) (.slice aK ks.length cK) (iv ks)) :=
    Lib.hid ⟨HR.out.1.turn (F := []) ((Turn.refl [] w).alloc _) (by simp), HR.out.2.1.turn (F := []) ((Turn.refl [] w).alloc _) (by simp)⟩
  have HC : Hid (∀ j v, (#[.int .i64 7, .string nm, .string to, .slice aB lB cB, .int .i64 n, .int .i64 cap, .slice aF zs.length cF, .int .i64 cr, .bool dn, .slice aK ks.length cK] : Array Value)[j]? = some v → (w.alloc (.cells #[.int .i64 7, .string nm, .string to, .slice aB lB cB, .int .i64 n, .int .i64 cap, .slice aF zs.length cF, .int .i64 cr, .bool dn, .slice aK ks.length cK] 35)).cell? ⟨w.heap.size, j, none⟩ = some v) := Lib.hid fun j v h => box_cell h
  generalize hW : w.alloc (.cells #[.int .i64 7, .string nm, .string to, .slice aB lB cB, .int .i64 n, .int .i64 cap, .slice aF zs.length cF, .int .i64 cr, .bool dn, .slice aK ks.length cK] 35) = W at *
  clear hW
  refine (code_restart HB.out HR.out.2.2.2.2.2.2 cap cr dn _ _ zs ks HRB.out.1 HRB.out.2 (fun hz a n c e => .inl (HR.out.2.2.1 hz a n c e)) (fun hz a n c e => .inl (HR.out.2.2.2.1 hz a n c e)) HR.out.2.2.2.2.1 HR.out.2.2.2.2.2.1).mono ?_
  rintro e w1 ⟨rfl, hB1, hS1⟩
  have HB1 := Lib.hid hB1
  have HS1 := Lib.hid hS1
  have k5 := hS1.cell (a := ⟨w.heap.size, 5, none⟩) (.inr rfl) (HC.out 5 _ rfl)
  have k6 := hS1.cell (a := ⟨w.heap.size, 6, none⟩) (.inr rfl) (HC.out 6 _ rfl)
  have k7 := hS1.cell (a := ⟨w.heap.size, 7, none⟩) (.inr rfl) (HC.out 7 _ rfl)
  have k8 := hS1.cell (a := ⟨w.heap.size, 8, none⟩) (.inr rfl) (HC.out 8 _ rfl)
  have k9 := hS1.cell (a := ⟨w.heap.size, 9, none⟩) (.inr rfl) (HC.out 9 _ rfl)
  clear hB1 hS1 HB
  go_wp2_with fail
  refine (ref_restart_both HB1.out HR.out.2.2.2.2.2.2 cap cr dn _ _ zs ks (HS1.out.reads HRB.out.1 fun hne a n c e => .inl (HR.out.2.2.1 (by rintro rfl; exact hne rfl) a n c e)) (HS1.out.reads HRB.out.2 fun hne a n c e => .inl (HR.out.2.2.2.1 (by rintro rfl; exact hne rfl) a n c e)) (fun hz a n c e => .inl (HR.out.2.2.1 hz a n c e)) (fun hz a n c e => .inl (HR.out.2.2.2.1 hz a n c e))).mono ?_
  rintro e w3 ⟨rfl, hB3, hS3⟩
  have HE := Lib.hid (And.intro (hB3.less (Y := (· < N)) (fun q hq => .inl hq)) (And.intro (HS.out.1.trans ((HS1.out.trans hS3).less (Y := (· < N)) fun q hq => .inl hq)) (Nat.lt_of_lt_of_le HS.out.2 (HS1.out.trans hS3).1.size)))
  clear hB3 hS3 HB1 HS1 HS
  go_wp2_with fail
  go_ret
  exact ⟨rfl, HE.out.1, HE.out.2⟩

set_option maxRecDepth 100000 in
set_option maxHeartbeats 4000000 in
theorem do_other (N base b r : Nat) (M : MD) (d : Int) (hd : ¬ (0 ≤ d ∧ d ≤ 8)) (nm to : ByteArray) (aB : Option Addr) (lB cB : Nat) (n cap : Int) (aF : Option Addr) (lF cF : Nat) (cr : Int) (dn : Bool) (aK : Option Addr) (lK cK : Nat) (w : World)
    (h : Both (· < N) w base b r M M) :
    Calls Try.prog 8 #[theDisk b, theRef r, actV d nm to (.slice aB lB cB) n cap (.slice aF lF cF) cr dn (.slice aK lK cK)] w fun e w' => e = .returned (.bool true) ∧
      Both (· < N) w' base b r M M ∧ Stays (· < N) w w' ∧ w.heap.size < w'.heap.size := by
  have HE := Lib.hid (And.intro (h.new ((Turn.refl [] w).alloc (actO d nm to (.slice aB lB cB) n cap (.slice aF lF cF) cr dn (.slice aK lK cK)))) (And.intro (Stays.of_turn (X := (· < N)) ((Turn.refl [] w).alloc (actO d nm to (.slice aB lB cB) n cap (.slice aF lF cF) cr dn (.slice aK lK cK))) fun q hq => ⟨h.1 q hq, by simp⟩) (show w.heap.size < (w.alloc (actO d nm to (.slice aB lB cB) n cap (.slice aF lF cF) cr dn (.slice aK lK cK))).heap.size by simp)))
  have e0 : (d == 0) = false := by simp; omega
  have e1 : (d == 1) = false := by simp; omega
  have e2 : (d == 2) = false := by simp; omega
  have e3 : (d == 3) = false := by simp; omega
  have e4 : (d == 4) = false := by simp; omega
  have e5 : (d == 5) = false := by simp; omega
  have e6 : (d == 6) = false := by simp; omega
  have e7 : (d == 7) = false := by simp; omega
  have e8 : (d == 8) = false := by simp; omega
  clear h hd
  unfold actO at HE
  unfold theDisk theRef actV
  go_enter Try.func8, Try.ntmps8
  go_wp2_with fail
  go_ret
  exact ⟨rfl, HE.out.1, HE.out.2⟩

end Go.Proofs.Ytmpjjnjggiipjaa

/- An act on both disks: Read; any act. Numbers and types by name. -/
namespace Go.Proofs.Ytmpjjnjggiipjaa
open Go.RowKit Go.Maps Go.Sort Go.WideMaps

theorem read_any_both {X : Nat → Prop} {w : World} {base b r : Nat} {M M2 : MD} (h : Both X w base b r M M2) (hl : Lim M) (name : ByteArray) (hz : name.size ≤ 1000000) :
    Calls Try.prog 16 #[theDisk b, .string name] w fun e w' => ∃ ao c, e = .returned (.tuple #[.slice ao (M.read name.data.toList).1.length c, .int .i64 (M.read name.data.toList).2]) ∧
      Reads w' (.slice ao (M.read name.data.toList).1.length c) (bv (M.read name.data.toList).1) ∧ Both X w' base b r M M2 ∧ Stays X w w' := by
  have h' := h
  obtain ⟨h0, Fd, Fr, G, h1, h2, h3, h4⟩ := h
  refine (read_cd base b M Fd name w h1 hl.fs hz).mono ?_
  rintro e w' ⟨ao, c, rfl, hB, t⟩
  exact ⟨ao, c, rfl, hB.reads, h'.new t, Stays.of_turn t fun q hq => ⟨h0 q hq, by simp⟩⟩

theorem ref_any_both {X : Nat → Prop} {w : World} {base b r : Nat} {M M1 : MD} (h : Both X w base b r M1 M) (hl : Lim M) (name : ByteArray) :
    Calls Try.prog 29 #[theRef r, .string name] w fun e w' => ∃ ao c, e = .returned (.tuple #[.slice ao (M.read name.data.toList).1.length c, .int .i64 (M.read name.data.toList).2]) ∧
      Reads w' (.slice ao (M.read name.data.toList).1.length c) (bv (M.read name.data.toList).1) ∧ Both X w' base b r M1 M ∧ (∀ v xs, Reads w v xs → Reads w' v xs) ∧ Stays X w w' := by
  have h' := h
  obtain ⟨h0, Fd, Fr, G, h1, h2, h3, h4⟩ := h
  refine (ref_read r M Fr G name w h2 hl.fs).mono ?_
  rintro e w' ⟨ao, c, rfl, hB, t⟩
  exact ⟨ao, c, rfl, hB.reads, h'.new t, fun v xs hr => hr.turn t (by simp), Stays.of_turn t fun q hq => ⟨h0 q hq, by simp⟩⟩

set_option maxRecDepth 100000 in
set_option maxHeartbeats 4000000 in
theorem do_read (N base b r : Nat) (M : MD) (nm to : ByteArray) (aB : Option Addr) (lB cB : Nat) (n cap : Int) (aF : Option Addr) (lF cF : Nat) (cr : Int) (dn : Bool) (aK : Option Addr) (lK cK : Nat) (w : World)
    (h : Both (· < N) w base b r M M) (hl : Lim M) (hz : nm.size ≤ 1000000) :
    Calls Try.prog 8 #[theDisk b, theRef r, actV 8 nm to (.slice aB lB cB) n cap (.slice aF lF cF) cr dn (.slice aK lK cK)] w fun e w' => e = .returned (.bool true) ∧
      Both (· < N) w' base b r M M ∧ Stays (· < N) w w' ∧ w.heap.size < w'.heap.size := by
  have HB := Lib.hid (h.box (actO 8 nm to (.slice aB lB cB) n cap (.slice aF lF cF) cr dn (.slice aK lK cK)))
  have HS : Hid (Stays (· < N) w (w.alloc (actO 8 nm to (.slice aB lB cB) n cap (.slice aF lF cF) cr dn (.slice aK lK cK))) ∧ w.heap.size < (w.alloc (actO 8 nm to (.slice aB lB cB) n cap (.slice aF lF cF) cr dn (.slice aK lK cK))).heap.size) := Lib.hid ⟨Stays.of_turn ((Turn.refl [] w).alloc _) fun q hq => ⟨h.1 q hq, by simp⟩, by simp⟩
  have HL := Lib.hid (And.intro hl hz)
  obtain ⟨l, hll⟩ : ∃ l, l = (M.read nm.data.toList).1 := ⟨_, rfl⟩
  obtain ⟨k, hkk⟩ : ∃ k, k = (M.read nm.data.toList).2 := ⟨_, rfl⟩
  have HK := Lib.hid (And.intro hll hkk)
  clear h hl hz hll hkk
  unfold actO at HB HS
  unfold theDisk theRef actV
  go_enter Try.func8, Try.ntmps8
  go_wp2_with fail
  have HC : Hid (∀ j v, (#[.int .i64 8, .string nm, .string to, .slice aB lB cB, .int .i64 n, .int .i64 cap, .slice aF lF cF, .int .i64 cr, .bool dn, .slice aK lK cK] : Array Value)[j]? = some v → (w.alloc (.cells #[.int .i64 8, .string nm, .string to, .slice aB lB cB, .int .i64 n, .int .i64 cap, .slice aF lF cF, .int .i64 cr, .bool dn, .slice aK lK cK] 35)).cell? ⟨w.heap.size, j, none⟩ = some v) := Lib.hid fun j v h => box_cell h
  generalize hW : w.alloc (.cells #[.int .i64 8, .string nm, .string to, .slice aB lB cB, .int .i64 n, .int .i64 cap, .slice aF lF cF, .int .i64 cr, .bool dn, .slice aK lK cK] 35) = W at *
  clear hW
  have HR1 := read_any_both (X := fun q => q < N ∨ q = w.heap.size) HB.out HL.out.1 nm HL.out.2
  unfold theDisk at HR1
  rw [← HK.out.1, ← HK.out.2] at HR1
  refine HR1.mono ?_
  rintro e w1 ⟨a1, c1, rfl, hr1, hB1, hS1⟩
  have HR2 := ref_any_both (X := fun q => q < N ∨ q = w.heap.size) hB1 HL.out.1 nm
  unfold theRef at HR2
  rw [← HK.out.1, ← HK.out.2] at HR2
  have HRd := Lib.hid hr1
  have HS1 := Lib.hid hS1
  have k1 := hS1.cell (a := ⟨w.heap.size, 1, none⟩) (.inr rfl) (HC.out 1 _ rfl)
  obtain ⟨q, hq⟩ : ∃ q, q = l.length := ⟨_, rfl⟩
  rw [← hq] at HRd HR2 ⊢
  have HQ := Lib.hid hq
  clear hB1 hS1 HB HR1 hr1 hq
  go_wp2_with fail
  refine HR2.mono ?_
  rintro e w3 ⟨a2, c2, rfl, hr2, hB3, hst, hS3⟩
  have v2 : (convert 33 9 (.slice a2 q c2)).run Try.prog w3 = .ok (.string ⟨l.toArray⟩) w3 := conv_reads hr2
  have v1 : (convert 33 9 (.slice a1 q c1)).run Try.prog w3 = .ok (.string ⟨l.toArray⟩) w3 := conv_reads (hst _ _ HRd.out)
  have HE := Lib.hid (And.intro (hB3.less (Y := (· < N)) (fun q hq => .inl hq)) (And.intro (HS.out.1.trans ((HS1.out.trans hS3).less (Y := (· < N)) fun q hq => .inl hq)) (Nat.lt_of_lt_of_le HS.out.2 (HS1.out.trans hS3).1.size)))
  clear hB3 hS3 HS1 HS hr2 hst HR2
  go_wp2_with fail
  refine (num_eq k w3).mono ?_
  rintro e w4 ⟨rfl, rfl⟩
  go_wp2_with fail
  go_ret
  exact ⟨rfl, HE.out.1, HE.out.2⟩

end Go.Proofs.Ytmpjjnjggiipjaa

namespace Go.Proofs.Ytmpjjnjggiipjaa
open Go.RowKit Go.Maps Go.Sort Go.WideMaps

theorem turn_grow {w w' : World} (t : Turn [] w w') : Grow w w' := t.below (Nat.le_refl _) (by simp)
theorem grow_turn {w w' : World} (h : Grow w w') : Turn [] w w' := turn_below h

theorem FlR.later {w w' : World} {v : Value} {fs : List Ent} (h : FlR w v fs) (t : Turn [] w w') : FlR w' v fs := by
  obtain ⟨ao, c, xs, hv, hl, h1, h2, h3⟩ := h
  refine ⟨ao, c, xs, hv, hl, fun a ha j u hj => ?_, h2, fun j x hj => ?_⟩
  · have h0 := h1 a ha j u hj
    exact (World.cell?_of_block (t.block _ (World.block_lt_of_cell? w _ h0) (by simp))).trans h0
  · obtain ⟨ab, cb, e1, e2, e3, e4⟩ := h3 j x hj
    exact ⟨ab, cb, e1, e2, e3, e4.turn t (by simp)⟩

/-- What is seen of the reference's disk. -/
theorem RD.sees {w : World} {r : Nat} {M : MD} {F G : List Nat} (h : RD w r M F G) : ∃ ao c, w.cell? ⟨r, 5, none⟩ = some (.slice ao M.fs.length c) ∧ w.cell? ⟨r, 6, none⟩ = some (.int .i64 M.n) ∧ w.cell? ⟨r, 7, none⟩ = some (.bool M.dw) ∧ FlR w (.slice ao M.fs.length c) M.fs := by
  obtain ⟨_, s, ao, c, xs, hR, hP, hv, hown, hT, _⟩ := h
  refine ⟨ao, c, ?_, ?_, ?_, FlR.ref hown hT⟩
  · rw [hR.c5, hv]
  · rw [hR.c6, hP.n]
  · rw [hR.c7, hP.dw]

theorem cell_up {w : World} {a : Addr} {v : Value} (h : w.cell? a = some v) : ∀ w', Grow w w' → w'.cell? a = some v := fun _ hg =>
  (World.cell?_of_block (hg.block _ (World.block_lt_of_cell? w _ h))).trans h

set_option maxRecDepth 100000 in
set_option maxHeartbeats 4000000 in
theorem same_any {X : Nat → Prop} (base b r : Nat) (M : MD) (w : World) (h : Both X w base b r M M) (hl : Lim M) :
    Calls Try.prog 11 #[theDisk b, theRef r] w fun e w' => e = .returned (.bool true) ∧ Turn [] w w' := by
  have h0 := h.new ((Turn.refl [] w).drewN 1)
  obtain ⟨_, Fd, Fr, G, h1, h2, _, _⟩ := h0
  obtain ⟨aF, cF, k5, k6, k7, hF⟩ := h2.sees
  obtain ⟨n, hn⟩ : ∃ n, n = M.fs.length := ⟨_, rfl⟩
  rw [← hn] at k5 hF
  have HC := Lib.hid (And.intro h1 (And.intro hF (And.intro hl hn)))
  obtain ⟨cn, hcn⟩ : ∃ cn, cn = M.n := ⟨_, rfl⟩
  obtain ⟨dw, hdw⟩ : ∃ dw, dw = M.dw := ⟨_, rfl⟩
  rw [← hcn] at k6
  rw [← hdw] at k7
  have HN := Lib.hid (And.intro hcn hdw)
  have u5 := cell_up k5
  have u6 := cell_up k6
  have u7 := cell_up k7
  clear h h1 h2 hF hl hn k5 k6 k7 hcn hdw
  change ∀ w', Grow w.drew w' → _ at u5
  change ∀ w', Grow w.drew w' → _ at u6
  change ∀ w', Grow w.drew w' → _ at u7
  unfold theDisk theRef
  go_enter Try.func11, Try.ntmps11
  go_wp2_with fail
  refine wp_region_mv [(0, 1, true), (2, 4, true), (1, 1, false), (6, 1, false), (7, 2, true), (10, 4, true), (9, 1, false), (14, 4, true), (19, 4, true), (18, 1, false), (23, 3, true)] (by kernel_rfl) (by kernel_rfl) ?_
  simp only [mvAll, mvSeg, List.drop_succ_cons, List.drop_zero, List.cons_append, List.nil_append, Nat.reduceAdd]
  iterate 5
    refine wpLin_still ?_ (fun w' hG K hK => ?_) (fun K hK => ?_)
    rotate_left
    · have d5 := u5 w' hG
      clear hG
      unfold mvVal
      go_simp
      try exact hK
    go_simp
    refine hK _ ?_
    clear hK K
  refine wpLin_call (fun K hK => ?_)
  unfold mvRun
  go_simp
  simp only [mvUpon]
  refine (files_cd base b M Fd w.drew HC.out.1 HC.out.2.2.1.fs).mono ?_
  rintro e w1 ⟨ao, c, xs, rfl, hown, hT, t1⟩
  have hf1 : FlR w1 (.slice ao M.fs.length c) M.fs := FlR.told hown hT
  have hf2 := HC.out.2.1.later t1
  rw [← HC.out.2.2.2] at hf1
  refine ⟨_, rfl, ?_⟩
  rw [← HC.out.2.2.2]
  go_simp
  refine hK _ _ (turn_grow t1) ?_
  clear hK K
  have HD1 := Lib.hid (HC.out.1.new t1)
  have HF := Lib.hid (And.intro hf1 (And.intro hf2 t1))
  clear hf1 hf2 hown hT t1
  refine wpLin_call (fun K hK => ?_)
  unfold mvRun
  go_simp
  simp only [mvUpon]
  refine (ref_files _ _ M.fs w1 HF.out.1 HF.out.2.1 HC.out.2.2.1.fs.len).mono ?_
  rintro e w2 ⟨rfl, t2⟩
  refine ⟨_, rfl, ?_⟩
  go_simp
  refine hK _ _ (turn_grow t2) ?_
  clear hK K
  have HD2 := Lib.hid (HD1.out.new t2)
  have HT2 := Lib.hid (HF.out.2.2.trans t2)
  have v6 : ∀ w', Grow w2 w' → w'.cell? ⟨r, 6, none⟩ = some (.int .i64 cn) := fun w' hg => u6 w' (Grow.trans (turn_grow HT2.out) hg)
  have v7 : ∀ w', Grow w2 w' → w'.cell? ⟨r, 7, none⟩ = some (.bool dw) := fun w' hg => u7 w' (Grow.trans (turn_grow HT2.out) hg)
  have HCC := calls_cd base b M Fd w2 HD2.out
  have HDW := down_cd base b M Fd w2 HD2.out
  unfold theDisk at HCC HDW
  rw [← HN.out.1] at HCC
  rw [← HN.out.2] at HDW
  clear t2 HD1 HF u5 u6 u7
  iterate 6
    refine wpLin_still ?_ (fun w' hG K hK => ?_) (fun K hK => ?_)
    rotate_left
    · have d6 := v6 w' hG
      clear hG
      unfold mvVal
      go_simp
      try exact hK
    go_simp
    refine hK _ ?_
    clear hK K
  refine wpLin_call (fun K hK => ?_)
  unfold mvRun
  go_simp
  simp only [mvUpon]
  refine HCC.mono ?_
  rintro e w3 ⟨rfl, rfl⟩
  refine ⟨_, rfl, ?_⟩
  go_simp
  refine hK _ _ (Grow.refl _) ?_
  clear hK K HCC
  iterate 8
    refine wpLin_still ?_ (fun w' hG K hK => ?_) (fun K hK => ?_)
    rotate_left
    · have d7 := v7 w' hG
      clear hG
      unfold mvVal
      go_simp
      try exact hK
    go_simp
    refine hK _ ?_
    clear hK K
  refine wpLin_call (fun K hK => ?_)
  unfold mvRun
  go_simp
  simp only [mvUpon]
  refine HDW.mono ?_
  rintro e w4 ⟨rfl, rfl⟩
  refine ⟨_, rfl, ?_⟩
  go_simp
  refine hK _ _ (Grow.refl _) ?_
  clear hK K HDW
  iterate 3
    refine wpLin_still ?_ (fun w' hG K hK => ?_) (fun K hK => ?_)
    rotate_left
    · unfold mvVal
      go_simp
      try exact hK
    go_simp
    refine hK _ ?_
    clear hK K
  refine wpLin_nil ?_
  go_wp2_with fail
  go_ret
  exact ⟨rfl, ((Turn.refl [] w).drewN 1).trans HT2.out⟩

end Go.Proofs.Ytmpjjnjggiipjaa
