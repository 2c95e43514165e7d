/- Numbers of errors; boxes. Numbers and types by name. -/
import Derived.Test.YthcdkggkoanjpaaGreatDoorCc
import Derived.Test.YthcdkggkoanjpaaGreatDoorChecked
import Derived.WalkKit
import Derived.WalkLawsBesides
import Derived.Lib.Hide
import Derived.BigQuiet
import Derived.Deep.QuietTactic
import Derived.ArgAppend
import Derived.OwnWalk
import Derived.Deep.RegionLaw
import Derived.Deep.AppendLies
import Derived.Lib.AppendStr
import Derived.Laws.IdiomStrings
import Derived.Lib.SlBytesConst
import Derived.BigRegion
import Derived.RegionTactic
import Derived.ChangeAlike
import Derived.Maps.OwnSet
import Derived.Sort.KeysCollected
import Derived.WalkSpells
import Derived.StillTactics
import Derived.Test.YthcdkggkoanjpaaGreatDoorWel
import Derived.StillTailTactics
import Derived.Test.YthcdkggkoanjpaaGreatDoorPrl
import Derived.Test.YthcdkggkoanjpaaGreatDoorWri
/- The writing calls of the code's disk, against the document's disk. Numbers and types by name. -/
namespace Go.Proofs.YthcdkggkoanjpaaGreatDoor
open Go.RowKit Go.Maps Go.Sort Go.WideMaps
theorem box_old {w : World} {p : Nat} {v : Value} (h : w.cell? ⟨p, 0, none⟩ = some v) (o : Obj) : (w.alloc o).cell? ⟨p, 0, none⟩ = some v :=
  cell_turn ((Turn.refl [] w).alloc o) (by simp) h
theorem box_new (w : World) (v : Value) (t : TypeId) (p : Nat) (hp : p = w.heap.size) : (w.alloc (.cells #[v] t)).cell? ⟨p, 0, none⟩ = some v := by
  subst hp
  exact box_at (Turn.refl [] _) (by simp)
theorem sync_via (b : Nat) (name : ByteArray) (w : World) (R : Int → World → Prop)
    (hw : ∀ W, W = (w.alloc (.cells #[theDisk b] 27)).alloc (.cells #[.string name] 9) →
      Calls Tryz.prog 60 #[theDisk b, .func (.func 111) #[] #[.pointer (some ⟨w.heap.size, 0, none⟩), .pointer (some ⟨w.heap.size + 1, 0, none⟩)]] W (Left R)) :
    Calls Tryz.prog 68 #[theDisk b, .string name] w (Left R) := by
  have hmf := hmf
  unfold theDisk at hw
  unfold theDisk
  go_enter Tryz.func68, Tryz.ntmps68
  go_wp2_with fail
  refine (hw _ rfl).mono ?_
  rintro e w' ⟨k, rfl, hk⟩
  have HK := Lib.hid hk
  clear hk hw
  go_wp2
  go_ret
  exact ⟨k, rfl, HK.out⟩
theorem remove_via (b : Nat) (name : ByteArray) (w : World) (R : Int → World → Prop)
    (hw : ∀ W, W = (w.alloc (.cells #[theDisk b] 27)).alloc (.cells #[.string name] 9) →
      Calls Tryz.prog 60 #[theDisk b, .func (.func 170) #[] #[.pointer (some ⟨w.heap.size, 0, none⟩), .pointer (some ⟨w.heap.size + 1, 0, none⟩)]] W (Left R)) :
    Calls Tryz.prog 131 #[theDisk b, .string name] w (Left R) := by
  have hmf := hmf
  unfold theDisk at hw
  unfold theDisk
  go_enter Tryz.func131, Tryz.ntmps131
  go_wp2_with fail
  refine (hw _ rfl).mono ?_
  rintro e w' ⟨k, rfl, hk⟩
  have HK := Lib.hid hk
  clear hk hw
  go_wp2
  go_ret
  exact ⟨k, rfl, HK.out⟩
theorem cut_via (b : Nat) (name : ByteArray) (n : Int) (w : World) (R : Int → World → Prop)
    (hw : ∀ W, W = ((w.alloc (.cells #[theDisk b] 27)).alloc (.cells #[.string name] 9)).alloc (.cells #[.int .i64 n] 3) →
      Calls Tryz.prog 60 #[theDisk b, .func (.func 110) #[] #[.pointer (some ⟨w.heap.size, 0, none⟩), .pointer (some ⟨w.heap.size + 1, 0, none⟩), .pointer (some ⟨w.heap.size + 1 + 1, 0, none⟩)]] W (Left R)) :
    Calls Tryz.prog 67 #[theDisk b, .string name, .int .i64 n] w (Left R) := by
  have hmf := hmf
  unfold theDisk at hw
  unfold theDisk
  go_enter Tryz.func67, Tryz.ntmps67
  go_wp2_with fail
  refine (hw _ rfl).mono ?_
  rintro e w' ⟨k, rfl, hk⟩
  have HK := Lib.hid hk
  clear hk hw
  go_wp2
  go_ret
  exact ⟨k, rfl, HK.out⟩
theorem rename_via (b : Nat) (src dst : ByteArray) (w : World) (R : Int → World → Prop)
    (hw : ∀ W, W = ((w.alloc (.cells #[theDisk b] 27)).alloc (.cells #[.string src] 9)).alloc (.cells #[.string dst] 9) →
      Calls Tryz.prog 60 #[theDisk b, .func (.func 172) #[] #[.pointer (some ⟨w.heap.size, 0, none⟩), .pointer (some ⟨w.heap.size + 1, 0, none⟩), .pointer (some ⟨w.heap.size + 1 + 1, 0, none⟩)]] W (Left R)) :
    Calls Tryz.prog 132 #[theDisk b, .string src, .string dst] w (Left R) := by
  have hmf := hmf
  unfold theDisk at hw
  unfold theDisk
  go_enter Tryz.func132, Tryz.ntmps132
  go_wp2_with fail
  refine (hw _ rfl).mono ?_
  rintro e w' ⟨k, rfl, hk⟩
  have HK := Lib.hid hk
  clear hk hw
  go_wp2
  go_ret
  exact ⟨k, rfl, HK.out⟩
def Acted (w : World) (base b : Nat) (M : MD) (F : List Nat) (op : Opn) : Int → World → Prop := fun k w' => k = (M.act op).1 ∧ Next w w' base b (M.act op).2 F
theorem create_cd (base b : Nat) (M : MD) (F : List Nat) (name : ByteArray) (w : World) (h : CD w base b M F) (hl : Lim M) (hz : name.size ≤ 1000000) :
    Calls Tryz.prog 65 #[theDisk b, .string name] w (Left (Acted w base b M F (opCreate name.data.toList))) := by
  have hn : ∀ j, w.heap.size ≤ j → j ∉ F := fun j hj hm => by have := (h.lt j hm).2; omega
  refine create_via b name w _ ?_
  rintro W rfl
  have t0 : Turn [] w ((w.alloc (.cells #[theDisk b] 27)).alloc (.cells #[.string name] 9)) := ((Turn.refl [] w).alloc _).alloc _
  refine (met_any base b _ _ M F (opCreate name.data.toList) _ (h.new t0) hl (enters_of Tryz.func107 (by kernel_rfl) rfl) ?_).mono ?_
  · intro d w1 h1 t1
    exact create_cc _ _ base b { M with n := M.n + 1, dw := d } F name w1 h1 hl.fs (cell_turn t1 (hn _ (by omega)) (box_new _ _ _ _ (by simp))) (cell_turn t1 (hn _ (Nat.le_refl _)) (box_old (box_new _ _ _ _ rfl) _)) hz
  · rintro e w' ⟨k, rfl, hk, hN⟩
    exact ⟨k, rfl, hk, hN.after (t0.mono (by simp))⟩
theorem sync_cd (base b : Nat) (M : MD) (F : List Nat) (name : ByteArray) (w : World) (h : CD w base b M F) (hl : Lim M) (hz : name.size ≤ 1000000) :
    Calls Tryz.prog 68 #[theDisk b, .string name] w (Left (Acted w base b M F (opSync name.data.toList))) := by
  have hn : ∀ j, w.heap.size ≤ j → j ∉ F := fun j hj hm => by have := (h.lt j hm).2; omega
  refine sync_via b name w _ ?_
  rintro W rfl
  have t0 : Turn [] w ((w.alloc (.cells #[theDisk b] 27)).alloc (.cells #[.string name] 9)) := ((Turn.refl [] w).alloc _).alloc _
  refine (met_any base b _ _ M F (opSync name.data.toList) _ (h.new t0) hl (enters_of Tryz.func111 (by kernel_rfl) rfl) ?_).mono ?_
  · intro d w1 h1 t1
    exact sync_cc _ _ base b { M with n := M.n + 1, dw := d } F name w1 h1 (cell_turn t1 (hn _ (Nat.le_refl _)) (box_old (box_new _ _ _ _ rfl) _)) (cell_turn t1 (hn _ (by omega)) (box_new _ _ _ _ (by simp))) hz
  · rintro e w' ⟨k, rfl, hk, hN⟩
    exact ⟨k, rfl, hk, hN.after (t0.mono (by simp))⟩
theorem remove_cd (base b : Nat) (M : MD) (F : List Nat) (name : ByteArray) (w : World) (h : CD w base b M F) (hl : Lim M) (hz : name.size ≤ 1000000) :
    Calls Tryz.prog 131 #[theDisk b, .string name] w (Left (Acted w base b M F (opRemove name.data.toList))) := by
  have hn : ∀ j, w.heap.size ≤ j → j ∉ F := fun j hj hm => by have := (h.lt j hm).2; omega
  refine remove_via b name w _ ?_
  rintro W rfl
  have t0 : Turn [] w ((w.alloc (.cells #[theDisk b] 27)).alloc (.cells #[.string name] 9)) := ((Turn.refl [] w).alloc _).alloc _
  refine (met_any base b _ _ M F (opRemove name.data.toList) _ (h.new t0) hl (enters_of Tryz.func170 (by kernel_rfl) rfl) ?_).mono ?_
  · intro d w1 h1 t1
    exact remove_cc _ _ base b { M with n := M.n + 1, dw := d } F name w1 h1 hl.fs (cell_turn t1 (hn _ (Nat.le_refl _)) (box_old (box_new _ _ _ _ rfl) _)) (cell_turn t1 (hn _ (by omega)) (box_new _ _ _ _ (by simp))) hz
  · rintro e w' ⟨k, rfl, hk, hN⟩
    exact ⟨k, rfl, hk, hN.after (t0.mono (by simp))⟩
theorem cut_cd (base b : Nat) (M : MD) (F : List Nat) (name : ByteArray) (n : Int) (w : World) (h : CD w base b M F) (hl : Lim M) (hz : name.size ≤ 1000000) :
    Calls Tryz.prog 67 #[theDisk b, .string name, .int .i64 n] w (Left (Acted w base b M F (opCut name.data.toList n))) := by
  have hn : ∀ j, w.heap.size ≤ j → j ∉ F := fun j hj hm => by have := (h.lt j hm).2; omega
  refine cut_via b name n w _ ?_
  rintro W rfl
  have t0 : Turn [] w (((w.alloc (.cells #[theDisk b] 27)).alloc (.cells #[.string name] 9)).alloc (.cells #[.int .i64 n] 3)) := (((Turn.refl [] w).alloc _).alloc _).alloc _
  refine (met_any base b _ _ M F (opCut name.data.toList n) _ (h.new t0) hl (enters_of Tryz.func110 (by kernel_rfl) rfl) ?_).mono ?_
  · intro d w1 h1 t1
    exact cut_cc _ _ _ base b { M with n := M.n + 1, dw := d } F name n w1 h1 hl.fs (cell_turn t1 (hn _ (Nat.le_refl _)) (box_old (box_old (box_new _ _ _ _ rfl) _) _)) (cell_turn t1 (hn _ (by omega)) (box_old (box_new _ _ _ _ (by simp)) _)) (cell_turn t1 (hn _ (by omega)) (box_new _ _ _ _ (by simp))) hz
  · rintro e w' ⟨k, rfl, hk, hN⟩
    exact ⟨k, rfl, hk, hN.after (t0.mono (by simp))⟩
theorem rename_cd (base b : Nat) (M : MD) (F : List Nat) (src dst : ByteArray) (w : World) (h : CD w base b M F) (hl : Lim M) (hz : src.size ≤ 1000000) (hy : dst.size ≤ 1000000) :
    Calls Tryz.prog 132 #[theDisk b, .string src, .string dst] w (Left (Acted w base b M F (opRename src.data.toList dst.data.toList))) := by
  have hn : ∀ j, w.heap.size ≤ j → j ∉ F := fun j hj hm => by have := (h.lt j hm).2; omega
  refine rename_via b src dst w _ ?_
  rintro W rfl
  have t0 : Turn [] w (((w.alloc (.cells #[theDisk b] 27)).alloc (.cells #[.string src] 9)).alloc (.cells #[.string dst] 9)) := (((Turn.refl [] w).alloc _).alloc _).alloc _
  refine (met_any base b _ _ M F (opRename src.data.toList dst.data.toList) _ (h.new t0) hl (enters_of Tryz.func172 (by kernel_rfl) rfl) ?_).mono ?_
  · intro d w1 h1 t1
    exact rename_cc _ _ _ base b { M with n := M.n + 1, dw := d } F src dst w1 h1 hl.fs (cell_turn t1 (hn _ (Nat.le_refl _)) (box_old (box_old (box_new _ _ _ _ rfl) _) _)) (cell_turn t1 (hn _ (by omega)) (box_old (box_new _ _ _ _ (by simp)) _)) (cell_turn t1 (hn _ (by omega)) (box_new _ _ _ _ (by simp))) (hn _ (Nat.le_refl _)) (hn _ (by omega)) (hn _ (by omega)) hz hy
  · rintro e w' ⟨k, rfl, hk, hN⟩
    exact ⟨k, rfl, hk, hN.after (t0.mono (by simp))⟩
theorem append_cd (base b : Nat) (M : MD) (F : List Nat) (name : ByteArray) (vb : Value) (l : List UInt8) (w : World) (h : CD w base b M F) (hl : Lim M) (hz : name.size ≤ 1000000) (hr : Reads w vb (bv l)) (hll : l.length ≤ 50000000)
    (hvb : l ≠ [] → ∀ a n c, vb = .slice (some a) n c → a.block ∉ F) :
    Calls Tryz.prog 33 #[theDisk b, .string name, vb] w (Left (Acted w base b M F (opAppend name.data.toList l))) := by
  have hn : ∀ j, w.heap.size ≤ j → j ∉ F := fun j hj hm => by have := (h.lt j hm).2; omega
  obtain ⟨ao, c, rfl⟩ : ∃ ao c, vb = .slice ao l.length c := by obtain ⟨ao, c, rfl, _⟩ := hr; exact ⟨ao, c, by rw [bv_length]⟩
  refine append_via b name ao l.length c w _ ?_
  rintro W rfl
  have t0 : Turn [] w (((w.alloc (.cells #[theDisk b] 27)).alloc (.cells #[.string name] 9)).alloc (.cells #[.slice ao l.length c] 24)) := (((Turn.refl [] w).alloc _).alloc _).alloc _
  refine (met_any base b _ _ M F (opAppend name.data.toList l) _ (h.new t0) hl (enters_of Tryz.func61 (by kernel_rfl) rfl) ?_).mono ?_
  · intro d w1 h1 t1
    have hr1 : Reads w1 (.slice ao l.length c) (bv l) := (hr.turn t0 (by simp)).turn t1 (fun hne => hvb (by rintro rfl; exact hne rfl))
    exact append_cc _ _ _ base b { M with n := M.n + 1, dw := d } F name _ l w1 h1 hl.fs (cell_turn t1 (hn _ (Nat.le_refl _)) (box_old (box_old (box_new _ _ _ _ rfl) _) _)) (cell_turn t1 (hn _ (by omega)) (box_old (box_new _ _ _ _ (by simp)) _)) (cell_turn t1 (hn _ (by omega)) (box_new _ _ _ _ (by simp))) (hn _ (Nat.le_refl _)) (hn _ (by omega)) hz hr1 hll
  · rintro e w' ⟨k, rfl, hk, hN⟩
    exact ⟨k, rfl, hk, hN.after (t0.mono (by simp))⟩
end Go.Proofs.YthcdkggkoanjpaaGreatDoor

/- The reference's disk in memory; gate, told, at. Numbers and types by name. -/
namespace Go.Proofs.YthcdkggkoanjpaaGreatDoor
open Go.RowKit Go.Maps Go.Sort Go.WideMaps
structure RS where
  cap : Int
  fl : Value
  cr : Int
  dn : Bool
  kp : Value
  fv : Value
  n : Int
  dw : Bool
theorem row_cell {w : World} {base e : Nat} {ao : Option Addr} {n c : Nat} {xs : List Value} (h : w.ownsRow base e 3 (.slice ao n c) n xs) (hx : xs.length = n * 3) {j : Nat} {v : Value} (hj : xs[j]? = some v) :
    ∃ g, ao = some ⟨g, 0, none⟩ ∧ w.cell? ⟨g, j, none⟩ = some v ∧ w.frozen? ⟨g, j, none⟩ = false := by
  have hlt := (List.getElem?_eq_some_iff.1 hj).1
  rcases h.2 with ⟨hv, h0⟩ | ⟨g, cap, cur, hv, _, hg, hc, _, hs, ht⟩
  · subst h0; simp at hx; rw [hx] at hlt; simp at hlt
  · simp only [Value.slice.injEq] at hv
    obtain ⟨rfl, _, rfl⟩ := hv
    refine ⟨g, rfl, ?_, by simp [World.frozen?, hg]⟩
    simp only [World.cell?, hg]
    rw [← ht, List.getElem?_take] at hj
    split at hj
    · simpa using hj
    · cases hj
end Go.Proofs.YthcdkggkoanjpaaGreatDoor

/- The reference's NewDisk; are two lists of files one? Numbers and types by name. -/
namespace Go.Proofs.YthcdkggkoanjpaaGreatDoor
open Go.RowKit Go.Maps Go.Sort Go.WideMaps
def FlR (w : World) (v : Value) (fs : List Ent) : Prop :=
  ∃ (ao : Option Addr) (c : Nat) (xs : List Value), v = .slice ao fs.length c ∧ xs.length = fs.length * 3 ∧ (∀ a, ao = some a → ∀ (j : Nat) (u : Value), xs[j]? = some u → w.cell? (a.add j) = some u) ∧ (ao = none → fs = []) ∧
    ∀ (j : Nat) (x : Ent), fs[j]? = some x → ∃ (ab : Option Addr) (cb : Nat), xs[j * 3]? = some (encStr x.1) ∧ xs[j * 3 + 1]? = some (.slice ab x.2.1.length cb) ∧ xs[j * 3 + 2]? = some (.int .i64 (x.2.2 : Nat)) ∧ Reads w (.slice ab x.2.1.length cb) (bv x.2.1)
theorem row_reads {w : World} {base : Nat} {ao : Option Addr} {n c : Nat} {xs : List Value} (h : w.ownsRow base 104 3 (.slice ao n c) n xs) (hx : xs.length = n * 3) : (∀ a, ao = some a → ∀ j u, xs[j]? = some u → w.cell? (a.add j) = some u) ∧ (ao = none → n = 0) := by
  constructor
  · intro a ha j u hj
    obtain ⟨g, e, hc, _⟩ := row_cell h hx hj
    rw [ha] at e
    cases e
    rw [Addr.add_lit, Nat.zero_add]
    exact hc
  · intro e
    rcases h.2 with ⟨_, h0⟩ | ⟨g, cap, cur, hv, _⟩
    · exact h0
    · simp only [Value.slice.injEq] at hv
      rw [hv.1] at e; cases e
theorem FlR.told {w : World} {base : Nat} {row : Option Nat} {ao : Option Addr} {c : Nat} {xs : List Value} {fs : List Ent} (h : w.ownsRow base 104 3 (.slice ao fs.length c) fs.length xs) (hT : ToldE w base row fs xs) : FlR w (.slice ao fs.length c) fs := by
  obtain ⟨h1, h2⟩ := row_reads h hT.1
  refine ⟨ao, c, xs, rfl, hT.1, h1, fun e => List.eq_nil_of_length_eq_zero (h2 e), fun j x hj => ?_⟩
  obtain ⟨ab, cb, e1, e2, e3, e4, _⟩ := hT.2 j x hj
  exact ⟨ab, cb, e1, e2, e3, owns_reads e4⟩
end Go.Proofs.YthcdkggkoanjpaaGreatDoor

/- Are both disks one? Numbers and types by name. -/
namespace Go.Proofs.YthcdkggkoanjpaaGreatDoor
open Go.RowKit Go.Maps Go.Sort Go.WideMaps
theorem FlR.later {w w' : World} {v : Value} {fs : List Ent} (h : FlR w v fs) (t : Turn [] w w') : FlR w' v fs := by
  obtain ⟨ao, c, xs, hv, hl, h1, h2, h3⟩ := h
  refine ⟨ao, c, xs, hv, hl, fun a ha j u hj => ?_, h2, fun j x hj => ?_⟩
  · have h0 := h1 a ha j u hj
    exact (World.cell?_of_block (t.block _ (World.block_lt_of_cell? w _ h0) (by simp))).trans h0
  · obtain ⟨ab, cb, e1, e2, e3, e4⟩ := h3 j x hj
    exact ⟨ab, cb, e1, e2, e3, e4.turn t (by simp)⟩
end Go.Proofs.YthcdkggkoanjpaaGreatDoor

/- Is there a draft among the files? Numbers and types by name. -/
namespace Go.Proofs.YthcdkggkoanjpaaGreatDoor
open Go.RowKit Go.Lib Go.Maps Go.Sort Go.WideMaps
set_option maxRecDepth 100000
theorem draft_clo (s : ByteArray) (ao : Option Addr) (n c : Nat) (y : Int) (w : World) : Calls Tryz.prog 129 #[.agg #[.string s, .slice ao n c, .int .i64 y]] w fun e w' => e = .returned (.bool (s.toList == tmpK)) ∧ Turn [] w w' := by
  have hb1 := heap_alloc_new w (.cells #[.string s, .slice ao n c, .int .i64 y] 104)
  have HW : Hid (Turn [] w (w.alloc (.cells #[.string s, .slice ao n c, .int .i64 y] 104))) := Lib.hid ((Turn.refl [] w).alloc _)
  go_enter Tryz.func129, Tryz.ntmps129
  go_wp2_with fail
  go_ret
  exact ⟨rfl, HW.out⟩
theorem draft_name (x : Ent) : ((⟨x.1.toArray⟩ : ByteArray).toList == tmpK) = isName tmpK x := by
  rw [ByteArray.toList_eq]
  show (x.1.toArray.toList == tmpK) = (x.1 == tmpK)
  rw [List.toList_toArray]
theorem index_files (v : Value) (fs : List Ent) (w : World) (h : FlR w v fs) (hl : fs.length < 900000) :
    Calls Tryz.prog 169 #[v, .func (.func 129) #[] #[]] w fun e w' => ∃ z : Int, e = .returned (.int .i64 z) ∧ decide (0 ≤ z) = fs.any (isName tmpK) ∧ Turn [] w w' := by
  have HF := Lib.hid h
  obtain ⟨ao, c, xs, rfl, hxl, hxc, hxn, hxt⟩ := h
  obtain ⟨n, hn⟩ : ∃ n, n = fs.length := ⟨_, rfl⟩
  rw [← hn] at hxl hl HF ⊢
  have HA := Lib.hid hxn
  have HN := Lib.hid hn
  clear hxl hxc hxn hxt hn
  go_enter Tryz.func169, Tryz.ntmps169
  go_wp2_with fail
  go_loopw [8] (fun iv wr => ∃ j : Nat, j ≤ n ∧ iv = .int .i64 j ∧ Hid (Turn [] w wr ∧ ∀ i, i < j → ∀ x, fs[i]? = some x → isName tmpK x = false))
    (fun iv _ => n - (RowKit.intOf iv).toNat)
  case atStart => exact ⟨0, Nat.zero_le _, rfl, Lib.hid ⟨Turn.refl _ _, fun i hi => absurd hi (Nat.not_lt_zero _)⟩⟩
  case round =>
    obtain ⟨j, hj, rfl, hs⟩ := hrel
    by_cases h1 : j < n
    · have h3 : (j : Int) < (n : Int) := by omega
      obtain ⟨x, hx⟩ : ∃ x, fs[j]? = some x := ⟨_, List.getElem?_eq_getElem (by have := HN.out; omega)⟩
      obtain ⟨a, rfl⟩ : ∃ a, ao = some a := by
        cases ao with
        | none => have := HA.out rfl; rw [this] at hx; cases hx
        | some a => exact ⟨a, rfl⟩
      obtain ⟨ao', c', xs, e, hxl, hxc, hxn, hxt⟩ := HF.out.later hs.out.1
      cases e
      obtain ⟨a1, c1, p1, p2, p3, p4⟩ := hxt j x hx
      have k1 := hxc a rfl _ _ p1
      have k2 := hxc a rfl _ _ p2
      rw [← Addr.add_add] at k2
      have k2' : wr.cell? ⟨(a.add (j * 3)).block, (a.add (j * 3)).off + 1, none⟩ = _ := k2
      have k3 := hxc a rfl _ _ p3
      rw [← Addr.add_add] at k3
      have k3' : wr.cell? ⟨(a.add (j * 3)).block, (a.add (j * 3)).off + 2, none⟩ = _ := k3
      unfold encStr at k1
      have CL := Lib.hid (fun w => draft_clo (⟨x.1.toArray⟩ : ByteArray) a1 x.2.1.length c1 (x.2.2 : Nat) w)
      have HX := Lib.hid (And.intro hx (draft_name x))
      clear hx hxl hxc hxn hxt p1 p2 p3 p4
      by_cases hd : isName tmpK x = true
      · have hd' : ((⟨x.1.toArray⟩ : ByteArray).toList == tmpK) = true := by rw [draft_name]; exact hd
        have HD := Lib.hid hd
        clear hd
        go_wp2_with (go_at_call 129; refine (CL.out _).mono ?_; rintro e w' ⟨rfl, t⟩; rw [hd'])
        go_ret
        refine ⟨j, rfl, ?_, hs.out.1.trans t⟩
        rw [decide_eq_true (by omega)]
        exact (List.any_eq_true.2 ⟨x, List.mem_of_getElem? HX.out.1, HD.out⟩).symm
      · rw [Bool.not_eq_true] at hd
        have hd' : ((⟨x.1.toArray⟩ : ByteArray).toList == tmpK) = false := by rw [draft_name]; exact hd
        have HD := Lib.hid hd
        clear hd
        go_wp2_with (go_at_call 129; refine (CL.out _).mono ?_; rintro e w' ⟨rfl, t⟩; rw [hd'])
        refine ⟨⟨j + 1, by omega, by simp, Lib.hid ⟨hs.out.1.trans t, fun i hi y hy => ?_⟩⟩, by simp [RowKit.intOf]; omega⟩
        by_cases hij : i < j
        · exact hs.out.2 i hij y hy
        · obtain rfl : i = j := by omega
          rw [HX.out.1] at hy
          cases hy
          exact HD.out
    · have h3 : ¬ (j : Int) < (n : Int) := by omega
      obtain rfl : j = n := by omega
      go_wp2_with fail
      go_ret
      refine ⟨-1, rfl, ?_, hs.out.1⟩
      rw [decide_eq_false (by omega)]
      symm
      rw [List.any_eq_false]
      intro x hx
      obtain ⟨i, hi, rfl⟩ := List.getElem_of_mem hx
      simp [hs.out.2 i (by have := HN.out; omega) _ (List.getElem?_eq_getElem hi)]
theorem contains_files (v : Value) (fs : List Ent) (w : World) (h : FlR w v fs) (hl : fs.length < 900000) :
    Calls Tryz.prog 130 #[v, .func (.func 129) #[] #[]] w fun e w' => e = .returned (.bool (fs.any (isName tmpK))) ∧ Turn [] w w' := by
  have H := index_files v fs w h hl
  clear h hl
  obtain ⟨bt, hbt⟩ : ∃ bt, bt = fs.any (isName tmpK) := ⟨_, rfl⟩
  rw [← hbt] at H ⊢
  clear hbt
  go_enter Tryz.func130, Tryz.ntmps130
  go_wp2_with fail
  refine H.mono ?_
  rintro e w1 ⟨z, rfl, hz, t⟩
  have HT := Lib.hid (And.intro hz t)
  clear hz t H
  go_wp2_with fail
  go_ret
  refine ⟨?_, HT.out.2⟩
  rw [← HT.out.1]
  rfl
end Go.Proofs.YthcdkggkoanjpaaGreatDoor

namespace Go.Proofs.YthcdkggkoanjpaaGreatDoor
open Go.RowKit Go.Maps Go.Sort Go.WideMaps
theorem box_cell {w : World} {cs : Array Value} {t : TypeId} {j : Nat} {v : Value} (h : cs[j]? = some v) : (w.alloc (.cells cs t)).cell? ⟨w.heap.size, j, none⟩ = some v := cells_of (heap_alloc_new w (.cells cs t)) j v h
theorem num_eq (k : Int) (w : World) : Calls Tryz.prog 17 #[.int .i64 k] w fun e w' => e = .returned (.int .i64 k) ∧ w' = w := by
  go_enter Tryz.func17, Tryz.ntmps17
  go_wp2_with fail
  go_ret
  exact ⟨rfl, rfl⟩
end Go.Proofs.YthcdkggkoanjpaaGreatDoor
