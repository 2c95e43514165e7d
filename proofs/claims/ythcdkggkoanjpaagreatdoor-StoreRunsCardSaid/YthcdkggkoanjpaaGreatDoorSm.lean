/- Are both disks one? Numbers and types by name. -/
import Derived.Test.YthcdkggkoanjpaaGreatDoorCc
import Derived.Test.YthcdkggkoanjpaaGreatDoorRd
import Derived.Test.YthcdkggkoanjpaaGreatDoorRl
import Derived.StillTailTactics
import Derived.Test.YthcdkggkoanjpaaGreatDoorMov
import Derived.Test.YthcdkggkoanjpaaGreatDoorCop
import Derived.BigRegion
import Derived.RegionTactic
import Derived.ChangeAlike
import Derived.Maps.OwnSet
import Derived.Sort.KeysCollected
import Derived.WalkSpells
import Derived.Test.YthcdkggkoanjpaaGreatDoorScr
import Derived.Test.YthcdkggkoanjpaaGreatDoorSpl
namespace Go.Proofs.YthcdkggkoanjpaaGreatDoor
open Go.RowKit Go.Maps Go.Sort Go.WideMaps
theorem box_old {w : World} {p : Nat} {v : Value} (h : w.cell? ⟨p, 0, none⟩ = some v) (o : Obj) : (w.alloc o).cell? ⟨p, 0, none⟩ = some v :=
  cell_turn ((Turn.refl [] w).alloc o) (by simp) h
theorem box_new (w : World) (v : Value) (t : TypeId) (p : Nat) (hp : p = w.heap.size) : (w.alloc (.cells #[v] t)).cell? ⟨p, 0, none⟩ = some v := by
  subst hp
  exact box_at (Turn.refl [] _) (by simp)
theorem sync_via (b : Nat) (name : ByteArray) (w : World) (R : Int → World → Prop)
    (hw : ∀ W, W = (w.alloc (.cells #[theDisk b] 27)).alloc (.cells #[.string name] 9) →
      Calls Tryz.prog 60 #[theDisk b, .func (.func 111) #[] #[.pointer (some ⟨w.heap.size, 0, none⟩), .pointer (some ⟨w.heap.size + 1, 0, none⟩)]] W (Left R)) :
    Calls Tryz.prog 68 #[theDisk b, .string name] w (Left R) := by
  have hmf := hmf
  unfold theDisk at hw
  unfold theDisk
  go_enter Tryz.func68, Tryz.ntmps68
  go_wp2_with fail
  refine (hw _ rfl).mono ?_
  rintro e w' ⟨k, rfl, hk⟩
  have HK := Lib.hid hk
  clear hk hw
  go_wp2
  go_ret
  exact ⟨k, rfl, HK.out⟩
theorem remove_via (b : Nat) (name : ByteArray) (w : World) (R : Int → World → Prop)
    (hw : ∀ W, W = (w.alloc (.cells #[theDisk b] 27)).alloc (.cells #[.string name] 9) →
      Calls Tryz.prog 60 #[theDisk b, .func (.func 170) #[] #[.pointer (some ⟨w.heap.size, 0, none⟩), .pointer (some ⟨w.heap.size + 1, 0, none⟩)]] W (Left R)) :
    Calls Tryz.prog 131 #[theDisk b, .string name] w (Left R) := by
  have hmf := hmf
  unfold theDisk at hw
  unfold theDisk
  go_enter Tryz.func131, Tryz.ntmps131
  go_wp2_with fail
  refine (hw _ rfl).mono ?_
  rintro e w' ⟨k, rfl, hk⟩
  have HK := Lib.hid hk
  clear hk hw
  go_wp2
  go_ret
  exact ⟨k, rfl, HK.out⟩
theorem cut_via (b : Nat) (name : ByteArray) (n : Int) (w : World) (R : Int → World → Prop)
    (hw : ∀ W, W = ((w.alloc (.cells #[theDisk b] 27)).alloc (.cells #[.string name] 9)).alloc (.cells #[.int .i64 n] 3) →
      Calls Tryz.prog 60 #[theDisk b, .func (.func 110) #[] #[.pointer (some ⟨w.heap.size, 0, none⟩), .pointer (some ⟨w.heap.size + 1, 0, none⟩), .pointer (some ⟨w.heap.size + 1 + 1, 0, none⟩)]] W (Left R)) :
    Calls Tryz.prog 67 #[theDisk b, .string name, .int .i64 n] w (Left R) := by
  have hmf := hmf
  unfold theDisk at hw
  unfold theDisk
  go_enter Tryz.func67, Tryz.ntmps67
  go_wp2_with fail
  refine (hw _ rfl).mono ?_
  rintro e w' ⟨k, rfl, hk⟩
  have HK := Lib.hid hk
  clear hk hw
  go_wp2
  go_ret
  exact ⟨k, rfl, HK.out⟩
theorem rename_via (b : Nat) (src dst : ByteArray) (w : World) (R : Int → World → Prop)
    (hw : ∀ W, W = ((w.alloc (.cells #[theDisk b] 27)).alloc (.cells #[.string src] 9)).alloc (.cells #[.string dst] 9) →
      Calls Tryz.prog 60 #[theDisk b, .func (.func 172) #[] #[.pointer (some ⟨w.heap.size, 0, none⟩), .pointer (some ⟨w.heap.size + 1, 0, none⟩), .pointer (some ⟨w.heap.size + 1 + 1, 0, none⟩)]] W (Left R)) :
    Calls Tryz.prog 132 #[theDisk b, .string src, .string dst] w (Left R) := by
  have hmf := hmf
  unfold theDisk at hw
  unfold theDisk
  go_enter Tryz.func132, Tryz.ntmps132
  go_wp2_with fail
  refine (hw _ rfl).mono ?_
  rintro e w' ⟨k, rfl, hk⟩
  have HK := Lib.hid hk
  clear hk hw
  go_wp2
  go_ret
  exact ⟨k, rfl, HK.out⟩
def Acted (w : World) (base b : Nat) (M : MD) (F : List Nat) (op : Opn) : Int → World → Prop := fun k w' => k = (M.act op).1 ∧ Next w w' base b (M.act op).2 F
theorem create_cd (base b : Nat) (M : MD) (F : List Nat) (name : ByteArray) (w : World) (h : CD w base b M F) (hl : Lim M) (hz : name.size ≤ 1000000) :
    Calls Tryz.prog 65 #[theDisk b, .string name] w (Left (Acted w base b M F (opCreate name.data.toList))) := by
  have hn : ∀ j, w.heap.size ≤ j → j ∉ F := fun j hj hm => by have := (h.lt j hm).2; omega
  refine create_via b name w _ ?_
  rintro W rfl
  have t0 : Turn [] w ((w.alloc (.cells #[theDisk b] 27)).alloc (.cells #[.string name] 9)) := ((Turn.refl [] w).alloc _).alloc _
  refine (met_any base b _ _ M F (opCreate name.data.toList) _ (h.new t0) hl (enters_of Tryz.func107 (by kernel_rfl) rfl) ?_).mono ?_
  · intro d w1 h1 t1
    exact create_cc _ _ base b { M with n := M.n + 1, dw := d } F name w1 h1 hl.fs (cell_turn t1 (hn _ (by omega)) (box_new _ _ _ _ (by simp))) (cell_turn t1 (hn _ (Nat.le_refl _)) (box_old (box_new _ _ _ _ rfl) _)) hz
  · rintro e w' ⟨k, rfl, hk, hN⟩
    exact ⟨k, rfl, hk, hN.after (t0.mono (by simp))⟩
theorem sync_cd (base b : Nat) (M : MD) (F : List Nat) (name : ByteArray) (w : World) (h : CD w base b M F) (hl : Lim M) (hz : name.size ≤ 1000000) :
    Calls Tryz.prog 68 #[theDisk b, .string name] w (Left (Acted w base b M F (opSync name.data.toList))) := by
  have hn : ∀ j, w.heap.size ≤ j → j ∉ F := fun j hj hm => by have := (h.lt j hm).2; omega
  refine sync_via b name w _ ?_
  rintro W rfl
  have t0 : Turn [] w ((w.alloc (.cells #[theDisk b] 27)).alloc (.cells #[.string name] 9)) := ((Turn.refl [] w).alloc _).alloc _
  refine (met_any base b _ _ M F (opSync name.data.toList) _ (h.new t0) hl (enters_of Tryz.func111 (by kernel_rfl) rfl) ?_).mono ?_
  · intro d w1 h1 t1
    exact sync_cc _ _ base b { M with n := M.n + 1, dw := d } F name w1 h1 (cell_turn t1 (hn _ (Nat.le_refl _)) (box_old (box_new _ _ _ _ rfl) _)) (cell_turn t1 (hn _ (by omega)) (box_new _ _ _ _ (by simp))) hz
  · rintro e w' ⟨k, rfl, hk, hN⟩
    exact ⟨k, rfl, hk, hN.after (t0.mono (by simp))⟩
theorem remove_cd (base b : Nat) (M : MD) (F : List Nat) (name : ByteArray) (w : World) (h : CD w base b M F) (hl : Lim M) (hz : name.size ≤ 1000000) :
    Calls Tryz.prog 131 #[theDisk b, .string name] w (Left (Acted w base b M F (opRemove name.data.toList))) := by
  have hn : ∀ j, w.heap.size ≤ j → j ∉ F := fun j hj hm => by have := (h.lt j hm).2; omega
  refine remove_via b name w _ ?_
  rintro W rfl
  have t0 : Turn [] w ((w.alloc (.cells #[theDisk b] 27)).alloc (.cells #[.string name] 9)) := ((Turn.refl [] w).alloc _).alloc _
  refine (met_any base b _ _ M F (opRemove name.data.toList) _ (h.new t0) hl (enters_of Tryz.func170 (by kernel_rfl) rfl) ?_).mono ?_
  · intro d w1 h1 t1
    exact remove_cc _ _ base b { M with n := M.n + 1, dw := d } F name w1 h1 hl.fs (cell_turn t1 (hn _ (Nat.le_refl _)) (box_old (box_new _ _ _ _ rfl) _)) (cell_turn t1 (hn _ (by omega)) (box_new _ _ _ _ (by simp))) hz
  · rintro e w' ⟨k, rfl, hk, hN⟩
    exact ⟨k, rfl, hk, hN.after (t0.mono (by simp))⟩
theorem cut_cd (base b : Nat) (M : MD) (F : List Nat) (name : ByteArray) (n : Int) (w : World) (h : CD w base b M F) (hl : Lim M) (hz : name.size ≤ 1000000) :
    Calls Tryz.prog 67 #[theDisk b, .string name, .int .i64 n] w (Left (Acted w base b M F (opCut name.data.toList n))) := by
  have hn : ∀ j, w.heap.size ≤ j → j ∉ F := fun j hj hm => by have := (h.lt j hm).2; omega
  refine cut_via b name n w _ ?_
  rintro W rfl
  have t0 : Turn [] w (((w.alloc (.cells #[theDisk b] 27)).alloc (.cells #[.string name] 9)).alloc (.cells #[.int .i64 n] 3)) := (((Turn.refl [] w).alloc _).alloc _).alloc _
  refine (met_any base b _ _ M F (opCut name.data.toList n) _ (h.new t0) hl (enters_of Tryz.func110 (by kernel_rfl) rfl) ?_).mono ?_
  · intro d w1 h1 t1
    exact cut_cc _ _ _ base b { M with n := M.n + 1, dw := d } F name n w1 h1 hl.fs (cell_turn t1 (hn _ (Nat.le_refl _)) (box_old (box_old (box_new _ _ _ _ rfl) _) _)) (cell_turn t1 (hn _ (by omega)) (box_old (box_new _ _ _ _ (by simp)) _)) (cell_turn t1 (hn _ (by omega)) (box_new _ _ _ _ (by simp))) hz
  · rintro e w' ⟨k, rfl, hk, hN⟩
    exact ⟨k, rfl, hk, hN.after (t0.mono (by simp))⟩
theorem rename_cd (base b : Nat) (M : MD) (F : List Nat) (src dst : ByteArray) (w : World) (h : CD w base b M F) (hl : Lim M) (hz : src.size ≤ 1000000) (hy : dst.size ≤ 1000000) :
    Calls Tryz.prog 132 #[theDisk b, .string src, .string dst] w (Left (Acted w base b M F (opRename src.data.toList dst.data.toList))) := by
  have hn : ∀ j, w.heap.size ≤ j → j ∉ F := fun j hj hm => by have := (h.lt j hm).2; omega
  refine rename_via b src dst w _ ?_
  rintro W rfl
  have t0 : Turn [] w (((w.alloc (.cells #[theDisk b] 27)).alloc (.cells #[.string src] 9)).alloc (.cells #[.string dst] 9)) := (((Turn.refl [] w).alloc _).alloc _).alloc _
  refine (met_any base b _ _ M F (opRename src.data.toList dst.data.toList) _ (h.new t0) hl (enters_of Tryz.func172 (by kernel_rfl) rfl) ?_).mono ?_
  · intro d w1 h1 t1
    exact rename_cc _ _ _ base b { M with n := M.n + 1, dw := d } F src dst w1 h1 hl.fs (cell_turn t1 (hn _ (Nat.le_refl _)) (box_old (box_old (box_new _ _ _ _ rfl) _) _)) (cell_turn t1 (hn _ (by omega)) (box_old (box_new _ _ _ _ (by simp)) _)) (cell_turn t1 (hn _ (by omega)) (box_new _ _ _ _ (by simp))) (hn _ (Nat.le_refl _)) (hn _ (by omega)) (hn _ (by omega)) hz hy
  · rintro e w' ⟨k, rfl, hk, hN⟩
    exact ⟨k, rfl, hk, hN.after (t0.mono (by simp))⟩
theorem append_cd (base b : Nat) (M : MD) (F : List Nat) (name : ByteArray) (vb : Value) (l : List UInt8) (w : World) (h : CD w base b M F) (hl : Lim M) (hz : name.size ≤ 1000000) (hr : Reads w vb (bv l)) (hll : l.length ≤ 50000000)
    (hvb : l ≠ [] → ∀ a n c, vb = .slice (some a) n c → a.block ∉ F) :
    Calls Tryz.prog 33 #[theDisk b, .string name, vb] w (Left (Acted w base b M F (opAppend name.data.toList l))) := by
  have hn : ∀ j, w.heap.size ≤ j → j ∉ F := fun j hj hm => by have := (h.lt j hm).2; omega
  obtain ⟨ao, c, rfl⟩ : ∃ ao c, vb = .slice ao l.length c := by obtain ⟨ao, c, rfl, _⟩ := hr; exact ⟨ao, c, by rw [bv_length]⟩
  refine append_via b name ao l.length c w _ ?_
  rintro W rfl
  have t0 : Turn [] w (((w.alloc (.cells #[theDisk b] 27)).alloc (.cells #[.string name] 9)).alloc (.cells #[.slice ao l.length c] 24)) := (((Turn.refl [] w).alloc _).alloc _).alloc _
  refine (met_any base b _ _ M F (opAppend name.data.toList l) _ (h.new t0) hl (enters_of Tryz.func61 (by kernel_rfl) rfl) ?_).mono ?_
  · intro d w1 h1 t1
    have hr1 : Reads w1 (.slice ao l.length c) (bv l) := (hr.turn t0 (by simp)).turn t1 (fun hne => hvb (by rintro rfl; exact hne rfl))
    exact append_cc _ _ _ base b { M with n := M.n + 1, dw := d } F name _ l w1 h1 hl.fs (cell_turn t1 (hn _ (Nat.le_refl _)) (box_old (box_old (box_new _ _ _ _ rfl) _) _)) (cell_turn t1 (hn _ (by omega)) (box_old (box_new _ _ _ _ (by simp)) _)) (cell_turn t1 (hn _ (by omega)) (box_new _ _ _ _ (by simp))) (hn _ (Nat.le_refl _)) (hn _ (by omega)) hz hr1 hll
  · rintro e w' ⟨k, rfl, hk, hN⟩
    exact ⟨k, rfl, hk, hN.after (t0.mono (by simp))⟩
end Go.Proofs.YthcdkggkoanjpaaGreatDoor
namespace Go.Proofs.YthcdkggkoanjpaaGreatDoor
open Go.RowKit Go.Maps Go.Sort Go.WideMaps
theorem ref_new (cap cr : Int) (dn : Bool) (fl kp : Value) (zs ks : List Int) (w : World) (hrf : Reads w fl (iv zs)) (hrk : Reads w kp (iv ks)) (P : List Nat)
    (hfP : zs ≠ [] → ∀ a n c, fl = .slice (some a) n c → a.block ∈ P) (hkP : ks ≠ [] → ∀ a n c, kp = .slice (some a) n c → a.block ∈ P) (hPd : ∀ q ∈ P, q < w.heap.size) :
    Calls Tryz.prog 14 #[.agg #[.int .i64 cap, fl, .int .i64 cr, .bool dn, kp]] w fun e w' => ∃ r F, e = .returned (theRef r) ∧ RD w' r (MD.new cap cr dn zs ks) F P ∧ (∀ q ∈ F, w.heap.size ≤ q) ∧ Turn [] w w' := by
  obtain ⟨afl, cfl, rfl⟩ : ∃ ao c, fl = .slice ao zs.length c := by obtain ⟨ao, c, rfl, _⟩ := hrf; exact ⟨ao, c, by rw [iv_length]⟩
  obtain ⟨akp, ckp, rfl⟩ : ∃ ao c, kp = .slice ao ks.length c := by obtain ⟨ao, c, rfl, _⟩ := hrk; exact ⟨ao, c, by rw [iv_length]⟩
  have HA := Lib.hid (And.intro hrf (And.intro hrk (And.intro hfP (And.intro hkP hPd))))
  clear hrf hrk hfP hkP hPd
  go_enter Tryz.func14, Tryz.ntmps14
  go_wp2_with fail
  go_ret
  obtain ⟨hrf, hrk, hfP, hkP, hPd⟩ := HA.out
  have t1 : Turn [] w (w.alloc (.cells #[.int .i64 cap, .slice afl zs.length cfl, .int .i64 cr, .bool dn, .slice akp ks.length ckp] 31)) := (Turn.refl [] w).alloc _
  have hnew := heap_alloc_new (w.alloc (.cells #[.int .i64 cap, .slice afl zs.length cfl, .int .i64 cr, .bool dn, .slice akp ks.length ckp] 31)) (.cells #[.int .i64 cap, .slice afl zs.length cfl, .int .i64 cr, .bool dn, .slice akp ks.length ckp, .slice none 0 0, .int .i64 0, .bool false] 79)
  have t2 := t1.alloc (.cells #[.int .i64 cap, .slice afl zs.length cfl, .int .i64 cr, .bool dn, .slice akp ks.length ckp, .slice none 0 0, .int .i64 0, .bool false] 79)
  refine ⟨w.heap.size + 1, [w.heap.size + 1], by simp [theRef], ⟨Fit.nil, { cap := cap, fl := .slice afl zs.length cfl, cr := cr, dn := dn, kp := .slice akp ks.length ckp, fv := .slice none 0 0, n := 0, dw := false }, none, 0, [], by simpa [RefC, RS.cells] using hnew, ⟨rfl, rfl, rfl, rfl, rfl, hrf.turn t2 (by simp), hrk.turn t2 (by simp), hfP, hkP, by show (0 : Int) ≤ 0; omega⟩, rfl, World.ownsRow_nil _ _ _ _, TellR.nil _ _, rfl, by simp [Value.ownBlock], fun q hq => ⟨?_, Nat.lt_of_lt_of_le (hPd q hq) t2.size⟩⟩, fun q hq => ?_, t2⟩
  · have := hPd q hq
    simp only [List.mem_singleton]
    omega
  · simp only [List.mem_singleton] at hq
    omega
def FlR (w : World) (v : Value) (fs : List Ent) : Prop :=
  ∃ (ao : Option Addr) (c : Nat) (xs : List Value), v = .slice ao fs.length c ∧ xs.length = fs.length * 3 ∧ (∀ a, ao = some a → ∀ (j : Nat) (u : Value), xs[j]? = some u → w.cell? (a.add j) = some u) ∧ (ao = none → fs = []) ∧
    ∀ (j : Nat) (x : Ent), fs[j]? = some x → ∃ (ab : Option Addr) (cb : Nat), xs[j * 3]? = some (encStr x.1) ∧ xs[j * 3 + 1]? = some (.slice ab x.2.1.length cb) ∧ xs[j * 3 + 2]? = some (.int .i64 (x.2.2 : Nat)) ∧ Reads w (.slice ab x.2.1.length cb) (bv x.2.1)
theorem row_reads {w : World} {base : Nat} {ao : Option Addr} {n c : Nat} {xs : List Value} (h : w.ownsRow base 104 3 (.slice ao n c) n xs) (hx : xs.length = n * 3) : (∀ a, ao = some a → ∀ j u, xs[j]? = some u → w.cell? (a.add j) = some u) ∧ (ao = none → n = 0) := by
  constructor
  · intro a ha j u hj
    obtain ⟨g, e, hc, _⟩ := row_cell h hx hj
    rw [ha] at e
    cases e
    rw [Addr.add_lit, Nat.zero_add]
    exact hc
  · intro e
    rcases h.2 with ⟨_, h0⟩ | ⟨g, cap, cur, hv, _⟩
    · exact h0
    · simp only [Value.slice.injEq] at hv
      rw [hv.1] at e; cases e
theorem FlR.told {w : World} {base : Nat} {row : Option Nat} {ao : Option Addr} {c : Nat} {xs : List Value} {fs : List Ent} (h : w.ownsRow base 104 3 (.slice ao fs.length c) fs.length xs) (hT : ToldE w base row fs xs) : FlR w (.slice ao fs.length c) fs := by
  obtain ⟨h1, h2⟩ := row_reads h hT.1
  refine ⟨ao, c, xs, rfl, hT.1, h1, fun e => List.eq_nil_of_length_eq_zero (h2 e), fun j x hj => ?_⟩
  obtain ⟨ab, cb, e1, e2, e3, e4, _⟩ := hT.2 j x hj
  exact ⟨ab, cb, e1, e2, e3, owns_reads e4⟩
theorem FlR.ref {w : World} {G : List Nat} {ao : Option Addr} {c : Nat} {xs : List Value} {fs : List Ent} (h : w.ownsRow 0 104 3 (.slice ao fs.length c) fs.length xs) (hT : TellR w G xs fs) : FlR w (.slice ao fs.length c) fs := by
  obtain ⟨h1, h2⟩ := row_reads h hT.1
  refine ⟨ao, c, xs, rfl, hT.1, h1, fun e => List.eq_nil_of_length_eq_zero (h2 e), fun j x hj => ?_⟩
  obtain ⟨ab, cb, e1, e2, e3, e4, _⟩ := hT.2 j x hj
  exact ⟨ab, cb, e1, e2, e3, e4⟩
set_option maxRecDepth 100000 in
set_option maxHeartbeats 4000000 in
theorem ref_files (va vb : Value) (fs : List Ent) (w : World) (ha : FlR w va fs) (hb : FlR w vb fs) (hl : fs.length < 900000) :
    Calls Tryz.prog 53 #[va, vb] w fun e w' => e = .returned (.bool true) ∧ Turn [] w w' := by
  obtain ⟨aa, ca, xs, rfl, hxl, hxc, hxn, hxt⟩ := ha
  obtain ⟨ab, cb, ys, rfl, hyl, hyc, hyn, hyt⟩ := hb
  obtain ⟨n, hn⟩ : ∃ n, n = fs.length := ⟨_, rfl⟩
  rw [← hn] at hxl hyl hl ⊢
  have HA := Lib.hid (And.intro hxl (And.intro hxc (And.intro hxn hxt)))
  have HB := Lib.hid (And.intro hyl (And.intro hyc (And.intro hyn hyt)))
  have HN := Lib.hid hn
  clear hxl hxc hxn hxt hyl hyc hyn hyt hn
  go_enter Tryz.func53, Tryz.ntmps53
  go_wp2_with fail
  go_loopw [5] (fun iv wr => ∃ j q : Nat, j ≤ n ∧ iv = .int .i64 j ∧ wr = w.drewN q)
    (fun iv _ => n - (intOf iv).toNat)
  case atStart => exact ⟨0, 0, Nat.zero_le _, rfl, rfl⟩
  case round =>
    obtain ⟨j, q, hj, rfl, rfl⟩ := hrel
    by_cases h1 : j < n
    · have h3 : (j : Int) < (n : Int) := by omega
      obtain ⟨x, hx⟩ : ∃ x, fs[j]? = some x := ⟨_, List.getElem?_eq_getElem (by have := HN.out; omega)⟩
      obtain ⟨a, rfl⟩ : ∃ a, aa = some a := by
        cases aa with
        | none => have := HA.out.2.2.1 rfl; rw [this] at hx; cases hx
        | some a => exact ⟨a, rfl⟩
      obtain ⟨b, rfl⟩ : ∃ b, ab = some b := by
        cases ab with
        | none => have := HB.out.2.2.1 rfl; rw [this] at hx; cases hx
        | some a => exact ⟨a, rfl⟩
      obtain ⟨a1, c1, p1, p2, p3, p4⟩ := HA.out.2.2.2 j x hx
      obtain ⟨b1, d1, q1, q2, q3, q4⟩ := HB.out.2.2.2 j x hx
      have k1 := HA.out.2.1 a rfl _ _ p1
      have k2 := HA.out.2.1 a rfl _ _ p2
      rw [← Addr.add_add] at k2
      have k2' : w.cell? ⟨(a.add (j * 3)).block, (a.add (j * 3)).off + 1, none⟩ = _ := k2
      have k3 := HA.out.2.1 a rfl _ _ p3
      rw [← Addr.add_add] at k3
      have k3' : w.cell? ⟨(a.add (j * 3)).block, (a.add (j * 3)).off + 2, none⟩ = _ := k3
      have m1 := HB.out.2.1 b rfl _ _ q1
      have m2 := HB.out.2.1 b rfl _ _ q2
      rw [← Addr.add_add] at m2
      have m2' : w.cell? ⟨(b.add (j * 3)).block, (b.add (j * 3)).off + 1, none⟩ = _ := m2
      have m3 := HB.out.2.1 b rfl _ _ q3
      rw [← Addr.add_add] at m3
      have m3' : w.cell? ⟨(b.add (j * 3)).block, (b.add (j * 3)).off + 2, none⟩ = _ := m3
      have v1 : ∀ W : World, (∀ a, W.cell? a = w.cell? a) → (convert 24 9 (.slice a1 x.2.1.length c1)).run Tryz.prog W = .ok (.string ⟨x.2.1.toArray⟩) W := fun W hW => conv_reads (by obtain ⟨ao, c, e, h0, h1, h2⟩ := p4; exact ⟨ao, c, e, h0, h1, fun a ha j u hj => by rw [hW]; exact h2 a ha j u hj⟩)
      have v2 : ∀ W : World, (∀ a, W.cell? a = w.cell? a) → (convert 24 9 (.slice b1 x.2.1.length d1)).run Tryz.prog W = .ok (.string ⟨x.2.1.toArray⟩) W := fun W hW => conv_reads (by obtain ⟨ao, c, e, h0, h1, h2⟩ := q4; exact ⟨ao, c, e, h0, h1, fun a ha j u hj => by rw [hW]; exact h2 a ha j u hj⟩)
      have w1 : ∀ q, (convert 24 9 (.slice a1 x.2.1.length c1)).run Tryz.prog (w.drewN q) = .ok (.string ⟨x.2.1.toArray⟩) (w.drewN q) := fun q => v1 _ fun _ => rfl
      have w2 : ∀ q, (convert 24 9 (.slice b1 x.2.1.length d1)).run Tryz.prog (w.drewN q) = .ok (.string ⟨x.2.1.toArray⟩) (w.drewN q) := fun q => v2 _ fun _ => rfl
      unfold encStr at k1 m1
      have n1 : (x.1 != x.1) = false := by simp
      have n2 : (x.2.1 != x.2.1) = false := by simp
      have n3 : ((x.2.2 : Int) != (x.2.2 : Int)) = false := by simp
      clear hx p1 p2 p3 p4 q1 q2 q3 q4 v1 v2
      go_wp2_with fail
      go_quiet (fail)
      go_wp2_with fail
      exact ⟨⟨j + 1, _, by omega, by simp, rfl⟩, by simp [intOf]; omega⟩
    · have h3 : ¬ (j : Int) < (n : Int) := by omega
      obtain rfl : j = n := by omega
      go_wp2_with fail
      go_ret
      exact ⟨rfl, (Turn.refl [] w).drewN _⟩
end Go.Proofs.YthcdkggkoanjpaaGreatDoor
namespace Go.Proofs.YthcdkggkoanjpaaGreatDoor
open Go.RowKit Go.Maps Go.Sort Go.WideMaps
theorem turn_grow {w w' : World} (t : Turn [] w w') : Grow w w' := t.below (Nat.le_refl _) (by simp)
end Go.Proofs.YthcdkggkoanjpaaGreatDoor
namespace Go.Proofs.YthcdkggkoanjpaaGreatDoor
open Go.RowKit Go.Maps Go.Sort Go.WideMaps
theorem FlR.later {w w' : World} {v : Value} {fs : List Ent} (h : FlR w v fs) (t : Turn [] w w') : FlR w' v fs := by
  obtain ⟨ao, c, xs, hv, hl, h1, h2, h3⟩ := h
  refine ⟨ao, c, xs, hv, hl, fun a ha j u hj => ?_, h2, fun j x hj => ?_⟩
  · have h0 := h1 a ha j u hj
    exact (World.cell?_of_block (t.block _ (World.block_lt_of_cell? w _ h0) (by simp))).trans h0
  · obtain ⟨ab, cb, e1, e2, e3, e4⟩ := h3 j x hj
    exact ⟨ab, cb, e1, e2, e3, e4.turn t (by simp)⟩
theorem RD.sees {w : World} {r : Nat} {M : MD} {F G : List Nat} (h : RD w r M F G) : ∃ ao c, w.cell? ⟨r, 5, none⟩ = some (.slice ao M.fs.length c) ∧ w.cell? ⟨r, 6, none⟩ = some (.int .i64 M.n) ∧ w.cell? ⟨r, 7, none⟩ = some (.bool M.dw) ∧ FlR w (.slice ao M.fs.length c) M.fs := by
  obtain ⟨_, s, ao, c, xs, hR, hP, hv, hown, hT, _⟩ := h
  refine ⟨ao, c, ?_, ?_, ?_, FlR.ref hown hT⟩
  · rw [hR.c5, hv]
  · rw [hR.c6, hP.n]
  · rw [hR.c7, hP.dw]
theorem cell_up {w : World} {a : Addr} {v : Value} (h : w.cell? a = some v) : ∀ w', Grow w w' → w'.cell? a = some v := fun _ hg =>
  (World.cell?_of_block (hg.block _ (World.block_lt_of_cell? w _ h))).trans h
set_option maxRecDepth 100000 in
set_option maxHeartbeats 4000000 in
theorem same_any_f {X : Nat → Prop} (base b r : Nat) (M : MD) (w : World) (h : Both X w base b r M M) (hl : LimF M.fs) :
    Calls Tryz.prog 27 #[theDisk b, theRef r] w fun e w' => e = .returned (.bool true) ∧ Turn [] w w' := by
  have h0 := h.new ((Turn.refl [] w).drewN 1)
  obtain ⟨_, Fd, Fr, G, h1, h2, _, _⟩ := h0
  obtain ⟨aF, cF, k5, k6, k7, hF⟩ := h2.sees
  obtain ⟨n, hn⟩ : ∃ n, n = M.fs.length := ⟨_, rfl⟩
  rw [← hn] at k5 hF
  have HC := Lib.hid (And.intro h1 (And.intro hF (And.intro hl hn)))
  obtain ⟨cn, hcn⟩ : ∃ cn, cn = M.n := ⟨_, rfl⟩
  obtain ⟨dw, hdw⟩ : ∃ dw, dw = M.dw := ⟨_, rfl⟩
  rw [← hcn] at k6
  rw [← hdw] at k7
  have HN := Lib.hid (And.intro hcn hdw)
  have u5 := cell_up k5
  have u6 := cell_up k6
  have u7 := cell_up k7
  clear h h1 h2 hF hl hn k5 k6 k7 hcn hdw
  change ∀ w', Grow w.drew w' → _ at u5
  change ∀ w', Grow w.drew w' → _ at u6
  change ∀ w', Grow w.drew w' → _ at u7
  unfold theDisk theRef
  go_enter Tryz.func27, Tryz.ntmps27
  go_wp2_with fail
  refine wp_region_mv [(0, 1, true), (2, 4, true), (1, 1, false), (6, 1, false), (7, 2, true), (10, 4, true), (9, 1, false), (14, 4, true), (19, 4, true), (18, 1, false), (23, 3, true)] (by kernel_rfl) (by kernel_rfl) ?_
  simp only [mvAll, mvSeg, List.drop_succ_cons, List.drop_zero, List.cons_append, List.nil_append, Nat.reduceAdd]
  iterate 5
    refine wpLin_still ?_ (fun w' hG K hK => ?_) (fun K hK => ?_)
    rotate_left
    · have d5 := u5 w' hG
      clear hG
      unfold mvVal
      go_simp
      try exact hK
    go_simp
    refine hK _ ?_
    clear hK K
  refine wpLin_call (fun K hK => ?_)
  unfold mvRun
  go_simp
  simp only [mvUpon]
  refine (files_cd base b M Fd w.drew HC.out.1 HC.out.2.2.1).mono ?_
  rintro e w1 ⟨ao, c, xs, rfl, hown, hT, t1⟩
  have hf1 : FlR w1 (.slice ao M.fs.length c) M.fs := FlR.told hown hT
  have hf2 := HC.out.2.1.later t1
  rw [← HC.out.2.2.2] at hf1
  refine ⟨_, rfl, ?_⟩
  rw [← HC.out.2.2.2]
  go_simp
  refine hK _ _ (turn_grow t1) ?_
  clear hK K
  have HD1 := Lib.hid (HC.out.1.new t1)
  have HF := Lib.hid (And.intro hf1 (And.intro hf2 t1))
  clear hf1 hf2 hown hT t1
  refine wpLin_call (fun K hK => ?_)
  unfold mvRun
  go_simp
  simp only [mvUpon]
  refine (ref_files _ _ M.fs w1 HF.out.1 HF.out.2.1 HC.out.2.2.1.len).mono ?_
  rintro e w2 ⟨rfl, t2⟩
  refine ⟨_, rfl, ?_⟩
  go_simp
  refine hK _ _ (turn_grow t2) ?_
  clear hK K
  have HD2 := Lib.hid (HD1.out.new t2)
  have HT2 := Lib.hid (HF.out.2.2.trans t2)
  have v6 : ∀ w', Grow w2 w' → w'.cell? ⟨r, 6, none⟩ = some (.int .i64 cn) := fun w' hg => u6 w' (Grow.trans (turn_grow HT2.out) hg)
  have v7 : ∀ w', Grow w2 w' → w'.cell? ⟨r, 7, none⟩ = some (.bool dw) := fun w' hg => u7 w' (Grow.trans (turn_grow HT2.out) hg)
  have HCC := calls_cd base b M Fd w2 HD2.out
  have HDW := down_cd base b M Fd w2 HD2.out
  unfold theDisk at HCC HDW
  rw [← HN.out.1] at HCC
  rw [← HN.out.2] at HDW
  clear t2 HD1 HF u5 u6 u7
  iterate 6
    refine wpLin_still ?_ (fun w' hG K hK => ?_) (fun K hK => ?_)
    rotate_left
    · have d6 := v6 w' hG
      clear hG
      unfold mvVal
      go_simp
      try exact hK
    go_simp
    refine hK _ ?_
    clear hK K
  refine wpLin_call (fun K hK => ?_)
  unfold mvRun
  go_simp
  simp only [mvUpon]
  refine HCC.mono ?_
  rintro e w3 ⟨rfl, rfl⟩
  refine ⟨_, rfl, ?_⟩
  go_simp
  refine hK _ _ (Grow.refl _) ?_
  clear hK K HCC
  iterate 8
    refine wpLin_still ?_ (fun w' hG K hK => ?_) (fun K hK => ?_)
    rotate_left
    · have d7 := v7 w' hG
      clear hG
      unfold mvVal
      go_simp
      try exact hK
    go_simp
    refine hK _ ?_
    clear hK K
  refine wpLin_call (fun K hK => ?_)
  unfold mvRun
  go_simp
  simp only [mvUpon]
  refine HDW.mono ?_
  rintro e w4 ⟨rfl, rfl⟩
  refine ⟨_, rfl, ?_⟩
  go_simp
  refine hK _ _ (Grow.refl _) ?_
  clear hK K HDW
  iterate 3
    refine wpLin_still ?_ (fun w' hG K hK => ?_) (fun K hK => ?_)
    rotate_left
    · unfold mvVal
      go_simp
      try exact hK
    go_simp
    refine hK _ ?_
    clear hK K
  refine wpLin_nil ?_
  go_wp2_with fail
  go_ret
  exact ⟨rfl, ((Turn.refl [] w).drewN 1).trans HT2.out⟩
end Go.Proofs.YthcdkggkoanjpaaGreatDoor
