/- The code's Save, walked. Numbers and types by name. -/
import Derived.Test.YthcdkggkoanjpaaGreatDoorSpl
import Derived.Test.YthcdkggkoanjpaaGreatDoorSm
import Derived.Test.YthcdkggkoanjpaaGreatDoorCop
import Derived.BigRegion
import Derived.RegionTactic
import Derived.ChangeAlike
import Derived.Maps.OwnSet
import Derived.Sort.KeysCollected
import Derived.WalkSpells
import Derived.StillTactics
import Derived.StillTailTactics
import Derived.Test.YthcdkggkoanjpaaGreatDoorRen
namespace Go.Proofs.YthcdkggkoanjpaaGreatDoor
open Go.RowKit Go.Lib Go.Maps Go.Sort Go.WideMaps
set_option maxRecDepth 100000
theorem draft_clo (s : ByteArray) (ao : Option Addr) (n c : Nat) (y : Int) (w : World) : Calls Tryz.prog 129 #[.agg #[.string s, .slice ao n c, .int .i64 y]] w fun e w' => e = .returned (.bool (s.toList == tmpK)) ∧ Turn [] w w' := by
  have hb1 := heap_alloc_new w (.cells #[.string s, .slice ao n c, .int .i64 y] 104)
  have HW : Hid (Turn [] w (w.alloc (.cells #[.string s, .slice ao n c, .int .i64 y] 104))) := Lib.hid ((Turn.refl [] w).alloc _)
  go_enter Tryz.func129, Tryz.ntmps129
  go_wp2_with fail
  go_ret
  exact ⟨rfl, HW.out⟩
theorem draft_name (x : Ent) : ((⟨x.1.toArray⟩ : ByteArray).toList == tmpK) = isName tmpK x := by
  rw [ByteArray.toList_eq]
  show (x.1.toArray.toList == tmpK) = (x.1 == tmpK)
  rw [List.toList_toArray]
theorem index_files (v : Value) (fs : List Ent) (w : World) (h : FlR w v fs) (hl : fs.length < 900000) :
    Calls Tryz.prog 169 #[v, .func (.func 129) #[] #[]] w fun e w' => ∃ z : Int, e = .returned (.int .i64 z) ∧ decide (0 ≤ z) = fs.any (isName tmpK) ∧ Turn [] w w' := by
  have HF := Lib.hid h
  obtain ⟨ao, c, xs, rfl, hxl, hxc, hxn, hxt⟩ := h
  obtain ⟨n, hn⟩ : ∃ n, n = fs.length := ⟨_, rfl⟩
  rw [← hn] at hxl hl HF ⊢
  have HA := Lib.hid hxn
  have HN := Lib.hid hn
  clear hxl hxc hxn hxt hn
  go_enter Tryz.func169, Tryz.ntmps169
  go_wp2_with fail
  go_loopw [8] (fun iv wr => ∃ j : Nat, j ≤ n ∧ iv = .int .i64 j ∧ Hid (Turn [] w wr ∧ ∀ i, i < j → ∀ x, fs[i]? = some x → isName tmpK x = false))
    (fun iv _ => n - (RowKit.intOf iv).toNat)
  case atStart => exact ⟨0, Nat.zero_le _, rfl, Lib.hid ⟨Turn.refl _ _, fun i hi => absurd hi (Nat.not_lt_zero _)⟩⟩
  case round =>
    obtain ⟨j, hj, rfl, hs⟩ := hrel
    by_cases h1 : j < n
    · have h3 : (j : Int) < (n : Int) := by omega
      obtain ⟨x, hx⟩ : ∃ x, fs[j]? = some x := ⟨_, List.getElem?_eq_getElem (by have := HN.out; omega)⟩
      obtain ⟨a, rfl⟩ : ∃ a, ao = some a := by
        cases ao with
        | none => have := HA.out rfl; rw [this] at hx; cases hx
        | some a => exact ⟨a, rfl⟩
      obtain ⟨ao', c', xs, e, hxl, hxc, hxn, hxt⟩ := HF.out.later hs.out.1
      cases e
      obtain ⟨a1, c1, p1, p2, p3, p4⟩ := hxt j x hx
      have k1 := hxc a rfl _ _ p1
      have k2 := hxc a rfl _ _ p2
      rw [← Addr.add_add] at k2
      have k2' : wr.cell? ⟨(a.add (j * 3)).block, (a.add (j * 3)).off + 1, none⟩ = _ := k2
      have k3 := hxc a rfl _ _ p3
      rw [← Addr.add_add] at k3
      have k3' : wr.cell? ⟨(a.add (j * 3)).block, (a.add (j * 3)).off + 2, none⟩ = _ := k3
      unfold encStr at k1
      have CL := Lib.hid (fun w => draft_clo (⟨x.1.toArray⟩ : ByteArray) a1 x.2.1.length c1 (x.2.2 : Nat) w)
      have HX := Lib.hid (And.intro hx (draft_name x))
      clear hx hxl hxc hxn hxt p1 p2 p3 p4
      by_cases hd : isName tmpK x = true
      · have hd' : ((⟨x.1.toArray⟩ : ByteArray).toList == tmpK) = true := by rw [draft_name]; exact hd
        have HD := Lib.hid hd
        clear hd
        go_wp2_with (go_at_call 129; refine (CL.out _).mono ?_; rintro e w' ⟨rfl, t⟩; rw [hd'])
        go_ret
        refine ⟨j, rfl, ?_, hs.out.1.trans t⟩
        rw [decide_eq_true (by omega)]
        exact (List.any_eq_true.2 ⟨x, List.mem_of_getElem? HX.out.1, HD.out⟩).symm
      · rw [Bool.not_eq_true] at hd
        have hd' : ((⟨x.1.toArray⟩ : ByteArray).toList == tmpK) = false := by rw [draft_name]; exact hd
        have HD := Lib.hid hd
        clear hd
        go_wp2_with (go_at_call 129; refine (CL.out _).mono ?_; rintro e w' ⟨rfl, t⟩; rw [hd'])
        refine ⟨⟨j + 1, by omega, by simp, Lib.hid ⟨hs.out.1.trans t, fun i hi y hy => ?_⟩⟩, by simp [RowKit.intOf]; omega⟩
        by_cases hij : i < j
        · exact hs.out.2 i hij y hy
        · obtain rfl : i = j := by omega
          rw [HX.out.1] at hy
          cases hy
          exact HD.out
    · have h3 : ¬ (j : Int) < (n : Int) := by omega
      obtain rfl : j = n := by omega
      go_wp2_with fail
      go_ret
      refine ⟨-1, rfl, ?_, hs.out.1⟩
      rw [decide_eq_false (by omega)]
      symm
      rw [List.any_eq_false]
      intro x hx
      obtain ⟨i, hi, rfl⟩ := List.getElem_of_mem hx
      simp [hs.out.2 i (by have := HN.out; omega) _ (List.getElem?_eq_getElem hi)]
theorem contains_files (v : Value) (fs : List Ent) (w : World) (h : FlR w v fs) (hl : fs.length < 900000) :
    Calls Tryz.prog 130 #[v, .func (.func 129) #[] #[]] w fun e w' => e = .returned (.bool (fs.any (isName tmpK))) ∧ Turn [] w w' := by
  have H := index_files v fs w h hl
  clear h hl
  obtain ⟨bt, hbt⟩ : ∃ bt, bt = fs.any (isName tmpK) := ⟨_, rfl⟩
  rw [← hbt] at H ⊢
  clear hbt
  go_enter Tryz.func130, Tryz.ntmps130
  go_wp2_with fail
  refine H.mono ?_
  rintro e w1 ⟨z, rfl, hz, t⟩
  have HT := Lib.hid (And.intro hz t)
  clear hz t H
  go_wp2_with fail
  go_ret
  refine ⟨?_, HT.out.2⟩
  rw [← HT.out.1]
  rfl
end Go.Proofs.YthcdkggkoanjpaaGreatDoor
namespace Go.Proofs.YthcdkggkoanjpaaGreatDoor
open Go.RowKit Go.Maps Go.Sort Go.WideMaps
theorem box_cell {w : World} {cs : Array Value} {t : TypeId} {j : Nat} {v : Value} (h : cs[j]? = some v) : (w.alloc (.cells cs t)).cell? ⟨w.heap.size, j, none⟩ = some v := cells_of (heap_alloc_new w (.cells cs t)) j v h
theorem num_eq (k : Int) (w : World) : Calls Tryz.prog 17 #[.int .i64 k] w fun e w' => e = .returned (.int .i64 k) ∧ w' = w := by
  go_enter Tryz.func17, Tryz.ntmps17
  go_wp2_with fail
  go_ret
  exact ⟨rfl, rfl⟩
end Go.Proofs.YthcdkggkoanjpaaGreatDoor
namespace Go.Proofs.YthcdkggkoanjpaaGreatDoor
open Go.RowKit Go.Lib Go.Maps Go.Sort Go.WideMaps
set_option maxRecDepth 100000
def savV (b : Nat) (v : Value) : Value := .agg #[theDisk b, v]
theorem sav_box {w : World} {b n c : Nat} {ao : Option Addr} : (w.alloc (.cells #[.pointer (some ⟨b, 0, none⟩), .slice ao n c] 142)).cell? ⟨w.heap.size, 0, none⟩ = some (.pointer (some ⟨b, 0, none⟩)) ∧ (w.alloc (.cells #[.pointer (some ⟨b, 0, none⟩), .slice ao n c] 142)).cell? ⟨w.heap.size, 1, none⟩ = some (.slice ao n c) :=
  ⟨box_cell rfl, box_cell rfl⟩
theorem sav_create (b n c : Nat) (ao : Option Addr) (w : World) (R : Int → World → Prop) (hw : ∀ W, Turn [] w W → Calls Tryz.prog 65 #[theDisk b, .string tmpS] W (Left R)) :
    Calls Tryz.prog 83 #[savV b (.slice ao n c)] w (Left R) := by
  obtain ⟨b0, b1⟩ := sav_box (w := w) (b := b) (ao := ao) (n := n) (c := c)
  have H := hw (w.alloc (.cells #[.pointer (some ⟨b, 0, none⟩), .slice ao n c] 142)) ((Turn.refl [] w).alloc _)
  unfold savV
  unfold theDisk tmpS at *
  clear hw
  go_enter Tryz.func83, Tryz.ntmps83
  go_wp2_with fail
  refine H.mono ?_
  rintro e w' ⟨k, rfl, hk⟩
  have HK := Lib.hid hk
  clear hk H
  go_wp2_with fail
  go_ret
  exact ⟨k, rfl, HK.out⟩
theorem sav_sync (b n c : Nat) (ao : Option Addr) (w : World) (R : Int → World → Prop) (hw : ∀ W, Turn [] w W → Calls Tryz.prog 68 #[theDisk b, .string tmpS] W (Left R)) :
    Calls Tryz.prog 85 #[savV b (.slice ao n c)] w (Left R) := by
  obtain ⟨b0, b1⟩ := sav_box (w := w) (b := b) (ao := ao) (n := n) (c := c)
  have H := hw (w.alloc (.cells #[.pointer (some ⟨b, 0, none⟩), .slice ao n c] 142)) ((Turn.refl [] w).alloc _)
  unfold savV
  unfold theDisk tmpS at *
  clear hw
  go_enter Tryz.func85, Tryz.ntmps85
  go_wp2_with fail
  refine H.mono ?_
  rintro e w' ⟨k, rfl, hk⟩
  have HK := Lib.hid hk
  clear hk H
  go_wp2_with fail
  go_ret
  exact ⟨k, rfl, HK.out⟩
theorem sav_rename (b n c : Nat) (ao : Option Addr) (w : World) (R : Int → World → Prop) (hw : ∀ W, Turn [] w W → Calls Tryz.prog 132 #[theDisk b, .string tmpS, .string snapS] W (Left R)) :
    Calls Tryz.prog 86 #[savV b (.slice ao n c)] w (Left R) := by
  obtain ⟨b0, b1⟩ := sav_box (w := w) (b := b) (ao := ao) (n := n) (c := c)
  have H := hw (w.alloc (.cells #[.pointer (some ⟨b, 0, none⟩), .slice ao n c] 142)) ((Turn.refl [] w).alloc _)
  unfold savV
  unfold theDisk tmpS snapS at *
  clear hw
  go_enter Tryz.func86, Tryz.ntmps86
  go_wp2_with fail
  refine H.mono ?_
  rintro e w' ⟨k, rfl, hk⟩
  have HK := Lib.hid hk
  clear hk H
  go_wp2_with fail
  go_ret
  exact ⟨k, rfl, HK.out⟩
theorem sav_write (b n c : Nat) (ao : Option Addr) (w : World) (R : Int → World → Prop) (hw : ∀ W, Turn [] w W → Calls Tryz.prog 33 #[theDisk b, .string tmpS, .slice ao n c] W (Left R)) :
    Calls Tryz.prog 84 #[savV b (.slice ao n c)] w (Left R) := by
  obtain ⟨b0, b1⟩ := sav_box (w := w) (b := b) (ao := ao) (n := n) (c := c)
  have H := hw (w.alloc (.cells #[.pointer (some ⟨b, 0, none⟩), .slice ao n c] 142)) ((Turn.refl [] w).alloc _)
  unfold savV
  unfold theDisk tmpS at *
  clear hw
  go_enter Tryz.func84, Tryz.ntmps84
  go_wp2_with fail
  refine H.mono ?_
  rintro e w' ⟨k, rfl, hk⟩
  have HK := Lib.hid hk
  clear hk H
  go_wp2_with fail
  go_ret
  exact ⟨k, rfl, HK.out⟩
theorem sav_remove (base b : Nat) (M : MD) (F : List Nat) (n c : Nat) (ao : Option Addr) (w : World) (h : CD w base b M F) (hl : Lim M) :
    Calls Tryz.prog 82 #[savV b (.slice ao n c)] w (Left fun k w' => (M.fs.any (isName tmpK) = true → Acted w base b M F (opRemove tmpK) k w') ∧ (M.fs.any (isName tmpK) = false → k = 0 ∧ Next w w' base b M F)) := by
  obtain ⟨b0, b1⟩ := sav_box (w := w) (b := b) (ao := ao) (n := n) (c := c)
  obtain ⟨W, hW⟩ : ∃ W, W = w.alloc (.cells #[.pointer (some ⟨b, 0, none⟩), .slice ao n c] 142) := ⟨_, rfl⟩
  have t : Turn [] w W := by rw [hW]; exact (Turn.refl [] w).alloc _
  have hl1 := hl.fs
  have HFI := files_cd base b M F W (h.new t) hl1
  have HN := Lib.hid (And.intro h (And.intro hl t))
  have b0' : W.cell? ⟨w.heap.size, 0, none⟩ = some (theDisk b) := by rw [hW]; exact b0
  have HL := Lib.hid hl1.len
  obtain ⟨fs, hfs⟩ : ∃ fs, fs = M.fs := ⟨_, rfl⟩
  obtain ⟨nf, hnf⟩ : ∃ nf, nf = fs.length := ⟨_, rfl⟩
  rw [← hfs] at HFI HL ⊢
  rw [← hnf] at HFI
  obtain ⟨bt, hbt⟩ : ∃ bt, bt = fs.any (isName tmpK) := ⟨_, rfl⟩
  rw [← hbt]
  have HFS := Lib.hid (And.intro hfs (And.intro hnf hbt))
  have hWs : w.heap.size < W.heap.size := World.block_lt_of_cell? W _ b0'
  have HWS := Lib.hid hWs
  unfold savV
  unfold theDisk at b0' HFI
  unfold theDisk
  clear b1 b0 h hl hl1 t hfs hnf hWs hbt
  go_enter Tryz.func82, Tryz.ntmps82
  go_wp2_with fail
  rw [← hW]
  refine HFI.mono ?_
  rintro e w1 ⟨a1, c1, xs, rfl, h1, h2, t1⟩
  have hFl : FlR w1 (.slice a1 nf c1) fs := by
    have e := HFS.out.2.1
    subst e
    exact FlR.told h1 h2
  have HC := contains_files _ fs w1 hFl HL.out
  rw [← HFS.out.2.2] at HC
  have HT1 := Lib.hid t1
  clear h1 h2 t1 hFl HFI
  go_wp2_with fail
  refine HC.mono ?_
  rintro e w2 ⟨rfl, t2⟩
  have HT2 := Lib.hid (HT1.out.trans t2)
  have d0 : w2.cell? ⟨w.heap.size, 0, none⟩ = some (.pointer (some ⟨b, 0, none⟩)) := by
    rw [World.cell?_of_block (HT2.out.block w.heap.size HWS.out (by simp))]
    exact b0'
  clear hW b0' t2 HC HT1 HFS HL
  cases bt with
  | false =>
    go_wp2_with fail
    go_ret
    exact ⟨0, rfl, rfl, HN.out.1.next_new (HN.out.2.2.trans HT2.out)⟩
  | true =>
    have HR := remove_cd base b M F tmpS w2 (HN.out.1.new (HN.out.2.2.trans HT2.out)) HN.out.2.1 (by decide)
    rw [tmpS_list] at HR
    unfold theDisk tmpS at HR
    go_wp2_with fail
    refine HR.mono ?_
    rintro e w3 ⟨k, rfl, hk⟩
    have HK := Lib.hid hk
    clear hk HR
    go_wp2_with fail
    go_ret
    obtain ⟨e, hn⟩ := HK.out
    exact ⟨k, rfl, e, hn.after ((HN.out.2.2.trans HT2.out).mono (by simp))⟩
end Go.Proofs.YthcdkggkoanjpaaGreatDoor
namespace Go.Proofs.YthcdkggkoanjpaaGreatDoor
open Go.RowKit Go.Lib Go.Maps Go.Sort Go.WideMaps
set_option maxRecDepth 100000
def restS (fs : List Ent) (x : List UInt8) : Nat → List Opn
  | 0 => saveOps fs x
  | k + 1 => [opCreate tmpK, opAppend tmpK x, opSync tmpK, opRename tmpK snapK].drop k
def SavAt (w0 wr : World) (base b : Nat) (M : MD) (F : List Nat) (x : List UInt8) (K j k : Nat) : Prop :=
  ∃ Mk Fk, CD wr base b Mk Fk ∧ (∀ q ∈ Fk, q ∈ F ∨ w0.heap.size ≤ q) ∧ Turn F w0 wr ∧ Well K Mk (j + k) ∧ saveP M x = runOps (restS M.fs x k) Mk ∧ (k = 0 → Mk = M)
def SavEnd (w0 w' : World) (base b : Nat) (M : MD) (F : List Nat) (x : List UInt8) (k : Int) : Prop := k = (saveP M x).1 ∧ Next w0 w' base b (saveP M x).2 F
def SavNext (w0 w' : World) (base b : Nat) (M : MD) (F : List Nat) (x : List UInt8) (K j k : Nat) (e : Int) : Prop :=
  (e = 0 → SavAt w0 w' base b M F x K j (k + 1)) ∧ (e ≠ 0 → SavEnd w0 w' base b M F x e)
theorem sav_step {w0 wr : World} {base b : Nat} {M : MD} {F : List Nat} {x : List UInt8} {K j k : Nat} {op : Opn} (h : SavAt w0 wr base b M F x K j k) (hk : restS M.fs x k = op :: restS M.fs x (k + 1)) (ho : Adds op K) (hp : Keeps op) {f : Nat} {args : Array Value}
    (hc : ∀ Mk Fk, CD wr base b Mk Fk → (∀ q ∈ Fk, q ∈ F ∨ w0.heap.size ≤ q) → Turn F w0 wr → Well K Mk (j + k) → (k = 0 → Mk = M) → Calls Tryz.prog f args wr (Left (Acted wr base b Mk Fk op))) :
    Calls Tryz.prog f args wr (Left fun e w' => SavNext w0 w' base b M F x K j k e) := by
  obtain ⟨Mk, Fk, h1, h2, h3, h4, h5, h6⟩ := h
  refine (hc Mk Fk h1 h2 h3 h4 h6).mono ?_
  rintro e w' ⟨k', rfl, rfl, hn⟩
  rw [hk, runOps_one] at h5
  refine ⟨_, rfl, fun h0 => ?_, fun h0 => ?_⟩
  · obtain ⟨F', k1, k2, t⟩ := hn
    rw [if_pos h0] at h5
    refine ⟨_, F', k1, fun q hq => ?_, h3.trans' t h2, ?_, h5, fun e => by omega⟩
    · rcases k2 q hq with e | e
      · exact h2 q e
      · exact .inr (Nat.le_trans h3.size e)
    · rw [show j + (k + 1) = j + k + 1 by omega]
      exact well_act h4 ho hp
  · rw [if_neg h0] at h5
    exact ⟨by rw [h5], by rw [h5]; exact Next.trans h1 h2 h3 hn⟩
theorem sav_calls {w0 wr : World} {base b : Nat} {M : MD} {F : List Nat} {x : List UInt8} {K J j k : Nat} {ao : Option Addr} {c m : Nat} (h : SavAt w0 wr base b M F x K j k) (hF : ∀ q ∈ F, q < w0.heap.size) (hj : j + 5 ≤ J) (hR : RoomW K J) (hx : x.length ≤ K) (hx2 : x.length ≤ 2000000)
    (hr : Reads w0 (.slice ao m c) (bv x)) (hB : ∀ a, (Value.slice ao m c).ownBlock = some a → a ∉ F) :
    (k = 0 → Calls Tryz.prog 82 #[savV b (.slice ao m c)] wr (Left fun e w' => SavNext w0 w' base b M F x K j k e)) ∧
    (k = 1 → Calls Tryz.prog 83 #[savV b (.slice ao m c)] wr (Left fun e w' => SavNext w0 w' base b M F x K j k e)) ∧
    (k = 2 → Calls Tryz.prog 84 #[savV b (.slice ao m c)] wr (Left fun e w' => SavNext w0 w' base b M F x K j k e)) ∧
    (k = 3 → Calls Tryz.prog 85 #[savV b (.slice ao m c)] wr (Left fun e w' => SavNext w0 w' base b M F x K j k e)) ∧
    (k = 4 → Calls Tryz.prog 86 #[savV b (.slice ao m c)] wr (Left fun e w' => SavNext w0 w' base b M F x K j k e)) := by
  have after : ∀ {Mk : MD} {Fk : List Nat} {op : Opn} {W : World}, Turn [] wr W → ∀ e w', Left (Acted W base b Mk Fk op) e w' → Left (Acted wr base b Mk Fk op) e w' := by
    rintro Mk Fk op W t e w' ⟨k', rfl, hk, hn⟩
    exact ⟨k', rfl, hk, hn.after (t.mono (by simp))⟩
  have lim : ∀ {Mk : MD}, Well K Mk (j + k) → k ≤ 4 → Lim Mk := fun hw hk => well_limW hR hw (by omega)
  refine ⟨?_, ?_, ?_, ?_, ?_⟩
  · rintro rfl
    obtain ⟨Mk, Fk, h1, h2, h3, h4, h5, h6⟩ := h
    obtain rfl := h6 rfl
    refine (sav_remove base b Mk Fk m c ao wr h1 (lim h4 (by omega))).mono ?_
    rintro e w' ⟨k', rfl, hA, hN⟩
    refine ⟨k', rfl, ?_⟩
    cases ha : Mk.fs.any (isName tmpK) with
    | true =>
      obtain ⟨rfl, hn⟩ := hA ha
      have h5' : saveP Mk x = runOps (opRemove tmpK :: restS Mk.fs x 1) Mk := by
        unfold saveP saveOps
        rw [if_pos ha]
        rfl
      rw [runOps_one] at h5'
      refine ⟨fun h0 => ?_, fun h0 => ?_⟩
      · obtain ⟨F', k1, k2, t⟩ := hn
        rw [if_pos h0] at h5'
        refine ⟨_, F', k1, fun q hq => ?_, h3.trans' t h2, ?_, h5', fun e => by omega⟩
        · rcases k2 q hq with e | e
          · exact h2 q e
          · exact .inr (Nat.le_trans h3.size e)
        · exact well_act h4 (adds_remove K tmpK) (keeps_remove tmpK)
      · rw [if_neg h0] at h5'
        exact ⟨by rw [h5'], by rw [h5']; exact Next.trans h1 h2 h3 hn⟩
    | false =>
      obtain ⟨rfl, hn⟩ := hN ha
      have h5' : saveP Mk x = runOps (restS Mk.fs x 1) Mk := by
        unfold saveP saveOps
        rw [if_neg (by simp [ha])]
        rfl
      refine ⟨fun h0 => ?_, fun h0 => absurd rfl h0⟩
      obtain ⟨F', k1, k2, t⟩ := hn
      refine ⟨_, F', k1, fun q hq => ?_, h3.trans' t h2, well_more h4 (by omega), h5', fun e => by omega⟩
      rcases k2 q hq with e | e
      · exact h2 q e
      · exact .inr (Nat.le_trans h3.size e)
  · rintro rfl
    refine sav_step h rfl (adds_create K tmpK) (keeps_create tmpK) fun Mk Fk h1 h2 h3 h4 h6 => ?_
    refine (sav_create b m c ao wr (Acted wr base b Mk Fk (opCreate tmpK)) fun W t => ?_)
    exact (create_cd base b Mk Fk tmpS W (h1.new t) (lim h4 (by omega)) (by decide)).mono (after t)
  · rintro rfl
    refine sav_step h rfl (adds_append K tmpK x hx) (keeps_append tmpK x) fun Mk Fk h1 h2 h3 h4 h6 => ?_
    refine (sav_write b m c ao wr (Acted wr base b Mk Fk (opAppend tmpK x)) fun W t => ?_)
    have hblk : x ≠ [] → ∀ a n c', Value.slice ao m c = .slice (some a) n c' → a.block ∉ Fk := by
      intro hne a n c' e hm
      cases e
      have hlt := hr.lt (fun e => hne (List.map_eq_nil_iff.1 e)) a _ _ rfl
      rcases h2 _ hm with hq | hq
      · exact hB a.block rfl hq
      · omega
    have hr1 : Reads wr (.slice ao m c) (bv x) := hr.turn h3 fun hne a n c' e hm => hB a.block (by rw [e]; rfl) hm
    exact (append_cd base b Mk Fk tmpS (.slice ao m c) x W (h1.new t) (lim h4 (by omega)) (by decide) (hr1.turn t (by simp)) (by omega) hblk).mono (after t)
  · rintro rfl
    refine sav_step h rfl (adds_sync K tmpK) (keeps_sync tmpK) fun Mk Fk h1 h2 h3 h4 h6 => ?_
    refine (sav_sync b m c ao wr (Acted wr base b Mk Fk (opSync tmpK)) fun W t => ?_)
    exact (sync_cd base b Mk Fk tmpS W (h1.new t) (lim h4 (by omega)) (by decide)).mono (after t)
  · rintro rfl
    refine sav_step h rfl (adds_rename K tmpK snapK) (keeps_rename tmpK snapK) fun Mk Fk h1 h2 h3 h4 h6 => ?_
    refine (sav_rename b m c ao wr (Acted wr base b Mk Fk (opRename tmpK snapK)) fun W t => ?_)
    exact (rename_cd base b Mk Fk tmpS snapS W (h1.new t) (lim h4 (by omega)) (by decide) (by decide)).mono (after t)
theorem load_cd (base b : Nat) (M : MD) (F : List Nat) (w : World) (h : CD w base b M F) (hl : LimF M.fs) (hlen : (loadP M).1.length ≤ 1000000) :
    Calls Tryz.prog 35 #[theDisk b] w fun e w' => ∃ ao q c, e = .returned (.tuple #[.slice ao q c, .int .i64 (loadE M)]) ∧ Prr w' (.slice ao q c) q (loadL M) ∧ Turn [] w w' ∧ ∀ a, (Value.slice ao q c).ownBlock = some a → w.heap.size ≤ a := by
  have HR := read_cd base b M F snapS w h hl (by decide)
  rw [snapS_list] at HR
  unfold loadL loadE
  unfold loadP at *
  obtain ⟨x, hx⟩ : ∃ x, x = (M.read snapK).1 := ⟨_, rfl⟩
  obtain ⟨k, hk⟩ : ∃ k, k = (M.read snapK).2 := ⟨_, rfl⟩
  rw [← hx, ← hk] at HR ⊢
  rw [← hx] at hlen
  obtain ⟨m, hm⟩ : ∃ m, m = x.length := ⟨_, rfl⟩
  rw [← hm] at HR hlen
  have HM := Lib.hid (And.intro hm hlen)
  unfold theDisk snapS at HR
  unfold theDisk
  clear h hl hx hk hm hlen
  go_enter Tryz.func35, Tryz.ntmps35
  go_wp2_with fail
  refine HR.mono ?_
  rintro e w1 ⟨ao, c, rfl, hB, t⟩
  have H1 := Lib.hid (And.intro hB t)
  clear hB t HR
  by_cases h0 : k = 0
  · subst h0
    have D := tdec_any (.slice ao m c) m x w1 H1.out.1.reads HM.out.1 HM.out.2
    go_wp2_with fail
    refine D.mono ?_
    rintro e w2 hD
    obtain ⟨a2, q2, c2, rfl, h2, h3, h4⟩ := hD.fresh
    have H2 := Lib.hid (And.intro h2 (And.intro h3 h4))
    clear h2 h3 h4 hD D
    go_wp2_with fail
    go_ret2
    refine ⟨a2, q2, c2, ?_, ?_, ?_, fun a ha => Nat.le_trans H1.out.2.size (H2.out.2.2 a ha)⟩
    · rfl
    · exact H2.out.1
    · exact H1.out.2.trans (turn_below H2.out.2.1)
  · by_cases h3 : k = 3
    · subst h3
      go_wp2_with fail
      go_ret2
      exact ⟨none, 0, 0, rfl, Prr.nil _, H1.out.2, fun a h => by cases h⟩
    · have e1 : ldE k x = k := by unfold ldE; rw [if_neg h0, if_neg h3]
      have e2 : ldL k x = [] := by unfold ldL; rw [if_neg h0]
      have HX := Lib.hid (And.intro e1 e2)
      clear e1 e2
      go_wp2_with fail
      go_ret2
      refine ⟨none, 0, 0, ?_, ?_, H1.out.2, fun a h => by cases h⟩
      · rw [HX.out.1]; rfl
      · rw [HX.out.2]; exact Prr.nil _
end Go.Proofs.YthcdkggkoanjpaaGreatDoor
namespace Go.Proofs.YthcdkggkoanjpaaGreatDoor
open Go.RowKit Go.Lib Go.Maps Go.Sort Go.WideMaps
set_option maxRecDepth 100000
set_option maxHeartbeats 4000000 in
theorem save_cdS (base b : Nat) (M : MD) (F : List Nat) (v : Value) (n : Nat) (L : List Prm) (w : World) (h : CD w base b M F) (hr : Prr w v n L) (hb : Slim L) {K J j : Nat} (hw : Well K M j) (hj : j + 5 ≤ J) (hR : RoomW K J) (hK : (bytesT L).length ≤ K) :
    Calls Tryz.prog 44 #[theDisk b, v] w (Left fun k w' => k = (saveT M L).1 ∧ Next w w' base b (saveT M L).2 F) := by
  obtain ⟨ao, c, rfl⟩ := hr.shape
  have HE := tenc_ownS _ n L w hr hb
  have hlen := bytesT_slim hb
  have hmf := hmf
  have HN := Lib.hid (And.intro h (And.intro hw (And.intro hj (And.intro hR (And.intro hK hlen)))))
  unfold saveT
  unfold ToldB errT at HE
  unfold theDisk
  clear h hr hb hw hj hR hK hlen
  by_cases hRi : Rise L
  rotate_left
  · rw [if_neg hRi] at HE ⊢
    clear hRi
    go_enter Tryz.func44, Tryz.ntmps44
    go_wp2_with fail
    refine HE.mono ?_
    rintro e w1 ⟨a1, m1, c1, rfl, h1, h2⟩
    have HB := Lib.hid h2
    clear h1 h2 HE
    go_wp2_with fail
    go_ret
    exact ⟨1, rfl, rfl, HN.out.1.next_new (turn_below HB.out)⟩
  · rw [if_pos hRi] at HE ⊢
    obtain ⟨x, hx⟩ : ∃ x, x = bytesT L := ⟨_, rfl⟩
    rw [← hx] at HE HN ⊢
    clear hRi hx
    go_enter Tryz.func44, Tryz.ntmps44
    go_wp2_with fail
    refine HE.mono ?_
    rintro e w1 ⟨a1, m1, c1, rfl, h1, h2⟩
    have HB := Lib.hid (And.intro h1 h2)
    obtain ⟨hs0, hs1⟩ := sav_box (w := w1) (b := b) (ao := a1) (n := m1) (c := c1)
    clear h1 h2 HE
    go_wp2_with fail
    obtain ⟨sv, hsv⟩ : ∃ sv, sv = savV b (.slice a1 m1 c1) := ⟨_, rfl⟩
    have esv : (Value.agg #[Value.pointer (some ⟨b, 0, none⟩), .slice a1 m1 c1]) = sv := by rw [hsv]; rfl
    rw [esv]
    obtain ⟨p, hp⟩ : ∃ p, p = w1.heap.size + 1 := ⟨_, rfl⟩
    obtain ⟨W, hW⟩ : ∃ W, W = (w1.alloc (.cells #[.pointer (some ⟨b, 0, none⟩), .slice a1 m1 c1] 142)).alloc (.cells #[.func (.func 82) #[sv] #[], .func (.func 83) #[sv] #[], .func (.func 84) #[sv] #[], .func (.func 85) #[sv] #[], .func (.func 86) #[sv] #[]] 43) := ⟨_, rfl⟩
    rw [← hW, ← hp]
    have hpW : W.heap[p]? = some (.cells #[.func (.func 82) #[sv] #[], .func (.func 83) #[sv] #[], .func (.func 84) #[sv] #[], .func (.func 85) #[sv] #[], .func (.func 86) #[sv] #[]] 43) := by
      rw [hW, hp]
      have e : w1.heap.size + 1 = (w1.alloc (.cells #[.pointer (some ⟨b, 0, none⟩), .slice a1 m1 c1] 142)).heap.size := by simp
      rw [e]
      exact heap_alloc_new _ _
    have tW : Turn [] w1 W := by rw [hW]; exact ((Turn.refl [] w1).alloc _).alloc _
    have t0 : Turn [] w W := (turn_below HB.out.2).trans tW
    have hFl : ∀ q ∈ F, q < w.heap.size := fun q hq => (HN.out.1.lt q hq).2
    have hpF : p ∉ F := fun hm => by have := hFl p hm; have := HB.out.2.size; omega
    have hrW : Reads W (.slice a1 m1 c1) (bv x) := HB.out.1.reads.turn tW (by simp)
    have hbF : ∀ a, (Value.slice a1 m1 c1).ownBlock = some a → a ∉ F := fun a ha hm => by have := (HB.out.1.2.lt a ha).1; have := hFl a hm; omega
    have hFW : ∀ q ∈ F, q < W.heap.size := fun q hq => Nat.lt_of_lt_of_le (hFl q hq) t0.size
    have at0 : SavAt W W base b M F x K j 0 := ⟨M, F, HN.out.1.new t0, fun q hq => .inl hq, Turn.refl _ _, HN.out.2.1, rfl, fun _ => rfl⟩
    have HX := Lib.hid (And.intro hpW (And.intro hpF (And.intro hrW (And.intro hbF (And.intro hFW t0)))))
    have HSV := Lib.hid hsv
    have HA0 := Lib.hid at0
    clear hs0 hs1 esv hsv hp hW hpW tW t0 hFl hpF hrW hbF hFW at0 hmf
    go_loopw [36] (fun i wr => ∃ k : Nat, k ≤ 5 ∧ i = .int .i64 (k : Int) ∧ Hid (SavAt W wr base b M F x K j k)) (fun i _ => 5 - (RowKit.intOf i).toNat)
    case atStart => exact ⟨0, by omega, rfl, HA0.out⟩
    case round =>
      obtain ⟨k, hk, rfl, hs⟩ := hrel
      by_cases h5 : k = 5
      · subst h5
        go_wp2_with fail
        go_ret
        obtain ⟨Mk, Fk, h1, h2, h3, h4, h6, _⟩ := hs.out
        refine ⟨0, rfl, ?_, ?_⟩
        · rw [h6]; rfl
        · rw [h6]
          exact (Next.trans h1 h2 h3 (CD.next h1)).after (HX.out.2.2.2.2.2.mono (by simp))
      · have hk4 : k ≤ 4 := by omega
        have tr : Turn F W wr := hs.out.choose_spec.choose_spec.2.2.1
        have hpr := tr.heap HX.out.1 HX.out.2.1
        have d0 := cells_of hpr 0 _ rfl
        have d1 := cells_of hpr 1 _ rfl
        have d2 := cells_of hpr 2 _ rfl
        have d3 := cells_of hpr 3 _ rfl
        have d4 := cells_of hpr 4 _ rfl
        have HC := sav_calls (ao := a1) (c := c1) (m := m1) hs.out HX.out.2.2.2.2.1 HN.out.2.2.1 HN.out.2.2.2.1 HN.out.2.2.2.2.1 (by have := HN.out.2.2.2.2.2; omega) HX.out.2.2.1 HX.out.2.2.2.1
        rw [← HSV.out] at HC
        clear tr hpr
        have hcase : k = 0 ∨ k = 1 ∨ k = 2 ∨ k = 3 ∨ k = 4 := by omega
        rcases hcase with rfl | rfl | rfl | rfl | rfl
        case' inl => replace HC := HC.1 rfl
        case' inr.inl => replace HC := HC.2.1 rfl
        case' inr.inr.inl => replace HC := HC.2.2.1 rfl
        case' inr.inr.inr.inl => replace HC := HC.2.2.2.1 rfl
        case' inr.inr.inr.inr => replace HC := HC.2.2.2.2 rfl
        all_goals
          go_wp2_with fail
          refine HC.mono ?_
          rintro e w2 ⟨k', rfl, hk'⟩
          have HK := Lib.hid hk'
          clear hk' HC d0 d1 d2 d3 d4 hs HA0
          by_cases h0 : k' = 0
          · subst h0
            have HN1 := Lib.hid (HK.out.1 rfl)
            clear HK
            go_wp2_with fail
            exact ⟨⟨_, by decide, rfl, HN1⟩, by simp [RowKit.intOf]⟩
          · have HN1 := Lib.hid (HK.out.2 h0)
            clear HK
            go_wp2_with fail
            go_ret
            exact ⟨k', rfl, HN1.out.1, HN1.out.2.after (HX.out.2.2.2.2.2.mono (by simp))⟩
end Go.Proofs.YthcdkggkoanjpaaGreatDoor
