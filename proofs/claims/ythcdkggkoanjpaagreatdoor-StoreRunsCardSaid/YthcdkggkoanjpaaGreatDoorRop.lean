/- The reference's Ops. Numbers and types by name. -/
import Derived.Test.YthcdkggkoanjpaaGreatDoorOpr
import Derived.Test.YthcdkggkoanjpaaGreatDoorMov
import Derived.Test.YthcdkggkoanjpaaGreatDoorPun
import Derived.Test.YthcdkggkoanjpaaGreatDoorFrm
import Derived.StillTailTactics
namespace Go.Proofs.YthcdkggkoanjpaaGreatDoor
open Go.RowKit Go.Lib
theorem right_ref (v : Value) (n : Nat) (L : List Opm) (w : World) (hr : Opr w v n L) :
    Calls Tryz.prog 29 #[v] w fun e w' => e = .returned (.bool (okOps L)) ∧ w' = w := by
  obtain ⟨ao, c, rfl⟩ := hr.shape
  have HR := Lib.hid hr
  have hm := hr.2.1
  unfold maxLen at hm
  clear hr
  go_enter Tryz.func29, Tryz.ntmps29
  go_wp2_with fail
  go_loopw [3] (fun i wr => ∃ k : Nat, k ≤ n ∧ i = .int .i64 k ∧ Hid ((L.take k).all okOp = true) ∧ w = wr)
    (fun i _ => n - (intOf i).toNat)
  case atStart => exact ⟨0, Nat.zero_le _, rfl, Lib.hid (by simp), rfl⟩
  case round =>
    obtain ⟨k, hk, rfl, hrel, rfl⟩ := hrel
    by_cases hlt : k < n
    · have h3 : (k : Int) < (n : Int) := by omega
      obtain ⟨a, o, rfl, ho, c0, c1, c2, s1, s2⟩ := HR.out.at hlt
      have HO := Lib.hid ho
      clear ho
      have step : (L.take (k + 1)).all okOp = okOp o := by rw [take_next HO.out, List.all_append, hrel.out]; simp
      cases hd : o.del with
      | false =>
        rw [hd] at c0
        have HS : Hid ((L.take (k + 1)).all okOp = true) := Lib.hid (by rw [step]; simp [okOp, hd])
        clear step hd
        go_wp2_with fail
        exact ⟨⟨k + 1, by omega, by simp, HS, trivial⟩, by simp [intOf]; omega⟩
      | true =>
        rw [hd] at c0
        cases hv : o.val.toList.isEmpty with
        | true =>
          have HS : Hid ((L.take (k + 1)).all okOp = true) := Lib.hid (by rw [step]; simp [okOp, hv])
          clear step hd
          go_wp2_with fail
          exact ⟨⟨k + 1, by omega, by simp, HS, trivial⟩, by simp [intOf]; omega⟩
        | false =>
          have HS : Hid (okOps L = false) := Lib.hid (by
            have e : L = L.take (k + 1) ++ L.drop (k + 1) := (List.take_append_drop _ _).symm
            have e2 : L.all okOp = false := by
              rw [e, List.all_append, step]
              simp [okOp, hv, hd]
            simp [okOps, e2])
          clear step hd
          go_wp2_with fail
          go_ret
          rw [HS.out]
          exact ⟨rfl, rfl⟩
    · have h3 : ¬ (k : Int) < (n : Int) := by omega
      obtain rfl : k = n := by omega
      have hk2 : L.take k = L := List.take_of_length_le (by have := HR.out.1; omega)
      have e : okOps L = decide ((k : Int) ≤ 1000) := by
        have h1 := hrel.out
        have h2 := HR.out.1
        rw [hk2] at h1
        unfold okOps
        rw [h1, Bool.true_and]
        congr 1
        simp only [eq_iff_iff]
        omega
      have HE := Lib.hid e
      clear hk2 e
      go_wp2_with fail
      go_ret
      rw [HE.out]
      exact ⟨rfl, rfl⟩
end Go.Proofs.YthcdkggkoanjpaaGreatDoor
namespace Go.Proofs.YthcdkggkoanjpaaGreatDoor
open Go.RowKit Go.Lib
theorem add_block (a : Addr) (j : Nat) : (a.add j).block = a.block := by unfold Addr.add; split <;> rfl
theorem grow_cell {w w' : World} (hg : Grow w w') {p : Addr} {v : Value} (h : w.cell? p = some v) : w'.cell? p = some v := (World.cell?_of_block (hg.block _ (World.block_lt_of_cell? w _ h))).trans h
theorem reads_low {w : World} {v : Value} {xs : List Value} (h : Reads w v xs) (hne : xs ≠ []) : ∀ a n c, v = .slice (some a) n c → a.block < w.heap.size := by
  intro a n c e
  obtain ⟨ao, c', e', _, _, hc⟩ := h
  rw [e] at e'
  cases e'
  cases xs with
  | nil => exact absurd rfl hne
  | cons x xs =>
    have := World.block_lt_of_cell? w _ (hc a rfl 0 x rfl)
    rwa [add_block] at this
end Go.Proofs.YthcdkggkoanjpaaGreatDoor
namespace Go.Proofs.YthcdkggkoanjpaaGreatDoor
open Go.RowKit Go.Lib
def digs (n : Nat) : List UInt8 := if n < 10 then [UInt8.ofNat (48 + n)] else digs (n / 10) ++ [UInt8.ofNat (48 + n % 10)]
termination_by n
decreasing_by omega
theorem digs_small {n : Nat} (h : n < 10) : digs n = [UInt8.ofNat (48 + n)] := by rw [digs, if_pos h]
theorem digs_more {n : Nat} (h : ¬ n < 10) : digs n = digs (n / 10) ++ [UInt8.ofNat (48 + n % 10)] := by rw [digs, if_neg h]
theorem digs_length (k : Nat) : ∀ n : Nat, n < 10 ^ (k + 1) → (digs n).length ≤ k + 1 := by
  induction k with
  | zero => intro n h; rw [digs_small (by omega)]; simp
  | succ k ih =>
    intro n h
    by_cases h10 : n < 10
    · rw [digs_small h10]; simp
    · rw [digs_more h10, List.length_append]
      have := ih (n / 10) (by rw [Nat.pow_succ] at h; omega)
      simp; omega
def txt (l : List UInt8) : ByteArray := ⟨l.toArray⟩
theorem conv_lit (w : World) (x : UInt8) (z : Int) (hz : z = (x.toNat : Int)) (fr : Nat × Nat) : (convert 24 9 (.slice (some ⟨w.heap.size, 0, none⟩) 1 1)).run Tryz.prog (w.alloc (.cells #[.int .u8 z] 5 fr)) = .ok (.string (txt [x])) (w.alloc (.cells #[.int .u8 z] 5 fr)) := by
  subst hz
  exact conv_reads (l := [x]) (Reads.lit w (bv [x]) 5 fr 1 rfl)
theorem digits_ref (n : Nat) (w : World) (hn : n < 1000000000) :
    Calls Tryz.prog 123 #[.int .i64 (n : Int)] w fun e w' => e = .returned (.string (txt (digs n))) ∧ Below w.heap.size w w' := by
  have h0 : ¬ (n : Int) < 0 := by omega
  go_enter Tryz.func123, Tryz.ntmps123
  go_wp2_with fail
  go_loopw [3, 4] (fun uv sv wr => ∃ (u : Nat) (s : List UInt8), uv = .int .u64 u ∧ sv = .string (txt s) ∧ u ≤ n ∧ Hid (digs n = digs u ++ s ∧ s.length + u ≤ n ∧ Below w.heap.size w wr))
    (fun uv _ _ => (intOf uv).toNat)
  case atStart => exact ⟨n, [], rfl, rfl, Nat.le_refl _, Lib.hid ⟨by simp, by simp, Below.refl _ _⟩⟩
  case round =>
    obtain ⟨u, s, rfl, rfl, hu, hrel⟩ := hrel
    have HU := Lib.hid (And.intro hu hn)
    clear hu hn
    have happ : ∀ x : UInt8, txt [x] ++ txt s = txt (x :: s) := fun x => by
      apply Go.WideShapes.bytes_inj
      simp [txt, ByteArray.data_append]
    by_cases hlt : u < 10
    · have h3 : ¬ (10 : Int) ≤ (u : Int) := by omega
      obtain ⟨x, hx⟩ : ∃ x, x = UInt8.ofNat (48 + u) := ⟨_, rfl⟩
      have hx2 : (48 : Int) + (u : Int) = (x.toNat : Int) := by rw [hx, UInt8.toNat_ofNat']; omega
      have hsz : ¬ 9223372036854775807 < (txt [x]).size + (txt s).size := by
        have h1 := hrel.out.2.1
        have h2 := HU.out
        have e1 : (txt [x]).size = 1 := rfl
        have e2 : (txt s).size = s.length := by simp [txt, ByteArray.size]
        omega
      have HX := Lib.hid hx
      have HA := Lib.hid (happ x)
      have hxl := x.toNat_lt
      clear hx happ
      have cv := fun w fr => conv_lit w x _ rfl fr
      go_wp2_with fail
      go_ret
      rw [HA.out, hrel.out.1, digs_small hlt, ← HX.out]
      exact ⟨rfl, hrel.out.2.2.alloc (by exact hrel.out.2.2.size) _⟩
    · have h3 : (10 : Int) ≤ (u : Int) := by omega
      obtain ⟨x, hx⟩ : ∃ x, x = UInt8.ofNat (48 + u % 10) := ⟨_, rfl⟩
      have hx2 : (48 : Int) + (u : Int) % 10 = (x.toNat : Int) := by rw [hx, UInt8.toNat_ofNat']; omega
      have hsz : ¬ 9223372036854775807 < (txt [x]).size + (txt s).size := by
        have h1 := hrel.out.2.1
        have h2 := HU.out
        have e1 : (txt [x]).size = 1 := rfl
        have e2 : (txt s).size = s.length := by simp [txt, ByteArray.size]
        omega
      have hu9 : u ≤ 1000000000 := by have := HU.out; omega
      have HX := Lib.hid hx
      have HA := Lib.hid (happ x)
      have hxl := x.toNat_lt
      clear hx happ
      have cv := fun w fr => conv_lit w x _ rfl fr
      go_wp2_with fail
      refine ⟨⟨u / 10, x :: s, by simp, by rw [HA.out], by have := HU.out; omega, Lib.hid ⟨?_, ?_, hrel.out.2.2.alloc (by exact hrel.out.2.2.size) _⟩⟩, by simp only [intOf]; omega⟩
      · rw [hrel.out.1, digs_more hlt, ← HX.out]; simp
      · have := hrel.out.2.1; simp; omega
end Go.Proofs.YthcdkggkoanjpaaGreatDoor
namespace Go.Proofs.YthcdkggkoanjpaaGreatDoor
set_option maxRecDepth 100000
open Go.RowKit Go.Lib
def pay (o : Opm) : List UInt8 := if o.del then 100 :: enc [o.key] else 112 :: enc [o.key, o.val]
def fin (n : Nat) : List UInt8 := 99 :: enc [txt (digs n)]
def recs (L : List Opm) : List (List UInt8) := L.map pay ++ [fin L.length]
theorem enc1_length (s : ByteArray) : (enc [s]).length = 8 + s.size := by
  have := enc_length [s]; simp only [bulk, List.map_cons, List.map_nil, List.sum_cons, List.sum_nil, List.length_cons, List.length_nil] at this; omega
theorem enc2_length (s t : ByteArray) : (enc [s, t]).length = 12 + s.size + t.size := by
  have := enc_length [s, t]; simp only [bulk, List.map_cons, List.map_nil, List.sum_cons, List.sum_nil, List.length_cons, List.length_nil] at this; omega
theorem pay_length (o : Opm) : (pay o).length ≤ 13 + o.key.size + o.val.size := by
  unfold pay
  split
  · rw [List.length_cons, enc1_length]; omega
  · rw [List.length_cons, enc2_length]; omega
theorem fin_length {n : Nat} (h : n < 1000000000) : (fin n).length ≤ 18 := by
  unfold fin
  rw [List.length_cons, enc1_length]
  have := digs_length 8 n (by omega)
  have e : (txt (digs n)).size = (digs n).length := by simp [txt, ByteArray.size]
  omega
theorem pays_bulk (L : List Opm) : (frms (L.map pay)).length ≤ 21 * bulkO L := by
  induction L with
  | nil => simp [frms, bulkO]
  | cons o L ih =>
    have e : frms ((o :: L).map pay) = frm (pay o) ++ frms (L.map pay) := by simp [frms]
    have := pay_length o
    rw [e, List.length_append, frm_length, bulkO_cons]
    omega
theorem pays_take {L : List Opm} {k : Nat} {o : Opm} (h : L[k]? = some o) : frms ((L.take (k + 1)).map pay) = frms ((L.take k).map pay) ++ frm (pay o) := by
  rw [take_next h, List.map_append, List.map_cons, List.map_nil, frms_snoc]
theorem bulkO_take (L : List Opm) (k : Nat) : bulkO (L.take k) ≤ bulkO L := by
  have := congrArg bulkO (List.take_append_drop k L)
  rw [bulkO_append] at this
  omega
def OpsTold (L : List Opm) (w : World) (e : Ending) (w' : World) : Prop :=
  ∃ ao m c z, e = .returned (.tuple #[.slice ao m c, .int .i64 z]) ∧ (z = 0 → Bs w' w.heap.size (.slice ao m c) m (frms (recs L))) ∧ ((∀ p ∈ recs L, p.length ≤ 1048576) → z = 0) ∧ Below w.heap.size w w'
set_option maxHeartbeats 2000000 in
theorem ref_ops_upto (v : Value) (n : Nat) (L : List Opm) (w : World) (hr : Opr w v n L) (hok : okOps L = true) (hb : bulkO L ≤ 1200000) :
    Calls Tryz.prog 99 #[v] w fun e w' => OpsTold L w e w' := by
  obtain ⟨ao, c, rfl⟩ := hr.shape
  have HR := Lib.hid hr
  have HB := Lib.hid hb
  have hn5 : n ≤ 1200000 := by have := bulkO_length L; have := hr.1; omega
  have R := right_ref _ n L w hr
  rw [hok] at R
  clear hr hok hb
  go_enter Tryz.func99, Tryz.ntmps99
  go_wp2_with fail
  refine R.mono ?_
  rintro e w1 ⟨rfl, rfl⟩
  clear R
  go_wp2_with fail
  go_loopw [4, 5] (fun xv i wr => ∃ (k r c : Nat) (ao : Option Addr), k ≤ n + 1 ∧ i = .int .i64 k ∧ xv = .slice ao r c ∧ Hid (r ≤ 25300000 ∧ (k ≤ n → Bs wr w1.heap.size (.slice ao r c) r (frms ((L.take k).map pay))) ∧ (n < k → Bs wr w1.heap.size (.slice ao r c) r (frms (recs L))) ∧ Below w1.heap.size w1 wr))
    (fun _ i _ => n + 1 - (intOf i).toNat)
  case atStart => exact ⟨0, 0, 0, none, Nat.zero_le _, rfl, rfl, Lib.hid ⟨by omega, fun _ => ⟨rfl, World.ownsRow_nil _ _ _ _⟩, fun h => by omega, Below.refl _ _⟩⟩
  case round =>
    obtain ⟨k, r, c, ao2, hk, rfl, rfl, hrel⟩ := hrel
    by_cases hend : n < k
    · have h3 : ¬ (k : Int) ≤ (n : Int) := by omega
      go_wp2_with fail
      go_ret2
      exact ⟨ao2, r, c, 0, rfl, fun _ => hrel.out.2.2.1 hend, fun _ => rfl, hrel.out.2.2.2⟩
    · have h3 : (k : Int) ≤ (n : Int) := by omega
      have D := fun w => digits_ref n w (by omega)
      have hcase : (k < n ∧ ∃ o, L[k]? = some o ∧ o.del = true) ∨ (k < n ∧ ∃ o, L[k]? = some o ∧ o.del = false) ∨ k = n := by
        by_cases hlt : k < n
        · have hx : L[k]? = some (L[k]'(by have := HR.out.1; omega)) := List.getElem?_eq_getElem (by have := HR.out.1; omega)
          cases hd : (L[k]'(by have := HR.out.1; omega)).del with
          | true => exact .inl ⟨hlt, _, hx, hd⟩
          | false => exact .inr (.inl ⟨hlt, _, hx, hd⟩)
        · exact .inr (.inr (by omega))
      have HA := Lib.hid (hrel.out.2.1 (by omega))
      have HBE := Lib.hid hrel.out.2.2.2
      have hrb := hrel.out.1
      clear hrel hend
      rcases hcase with ⟨hlt, o, ho, hd⟩ | ⟨hlt, o, ho, hd⟩ | hkn
      case' inl =>
        have h4 : (k : Int) < (n : Int) := by omega
        go_wp2_with fail
        refine (D _).mono ?_
        rintro e w2 ⟨rfl, hb2⟩
        clear D
        have G2 := Lib.hid (Grow.trans ((Below.refl _ wr).alloc (Nat.le_refl _) _) hb2)
        clear hb2
        have RR := (HR.out.later HBE.out).later G2.out
        obtain ⟨a, o', rfl, ho', q0, q1, q2, s1, s2⟩ := RR.at hlt
        obtain rfl : o = o' := by rw [ho] at ho'; exact Option.some.inj ho'
        rw [hd] at q0
        have HO := Lib.hid (And.intro ho hd)
        have HS := Lib.hid (And.intro s1 s2)
        have hlb := World.block_lt_of_cell? w2 _ q0
        unfold maxLen at s1 s2
        clear ho hd ho' RR
        go_wp2_with fail
        obtain ⟨X, hX⟩ : ∃ X, X = (w2.alloc (.cells #[.string (txt (digs n))] 9)).alloc (.cells #[.int .u8 112] 5) := ⟨_, rfl⟩
        rw [← hX]
        have gX : Grow w2 X := by rw [hX]; exact Grow.trans ((Below.refl _ w2).alloc (Nat.le_refl _) _) ((Below.refl _ _).alloc (Nat.le_refl _) _)
        have gY : Grow w2 X.drew := below_drewN gX 1
        have x0 := grow_cell gY q0
        have x1 := grow_cell gY q1
        have x2 := grow_cell gY q2
        have hlX : (a.add (k * 3)).block < X.drew.heap.size := World.block_lt_of_cell? X.drew _ x0
        have GY := Lib.hid gY
        have HW : Hid (Grow X X.drew) := Lib.hid (below_drewN (Below.refl _ X) 1)
        clear q0 q1 q2 hlb hX gX gY
        go_still_tail 10, (by kernel_rfl)
        change wpList _ _ _ _ _ X.drew
        generalize X.drew = Y at *
        go_wp2_with fail
        obtain ⟨Z, hZ⟩ : ∃ Z, Z = (Y.alloc (.cells #[.string o.key, .string o.val] 9)).alloc (.cells #[.int .u8 100] 5) := ⟨_, rfl⟩
        have hzs : Y.heap.size + 1 + 1 = Z.heap.size := by rw [hZ]; simp
        rw [← hZ, hzs]
        have gZ : Grow Y Z := by rw [hZ]; exact Grow.trans ((Below.refl _ Y).alloc (Nat.le_refl _) _) ((Below.refl _ _).alloc (Nat.le_refl _) _)
        have HPZ : Hid (Bs Z wr.heap.size (.slice (some ⟨Y.heap.size + 1, 0, none⟩) 1 1) 1 [100]) := Lib.hid (by
          have h := bs_lit (Y.alloc (.cells #[.string o.key, .string o.val] 9)) wr.heap.size [100] 1 rfl (Nat.le_trans (Nat.le_trans G2.out.size GY.out.size) (by simp)) (by unfold maxLen; omega)
          rw [show (Y.alloc (.cells #[.string o.key, .string o.val] 9)).heap.size = Y.heap.size + 1 by simp] at h
          rw [hZ]
          exact h)
        have GZ := Lib.hid (Grow.trans (Grow.trans G2.out GY.out) gZ)
        have hob := bulkO_mem (List.mem_of_getElem? HO.out.1)
        have hbb := HB.out
        refine (ref_encode _ 1 [o.key] _ (Texts.lit Z [o.key] (0, 0) 1 rfl (by unfold maxLen; omega) ?_) ?_).mono ?_
        · intro s hs
          simp only [List.mem_cons, List.not_mem_nil, or_false] at hs
          subst hs; have := HS.out.1; exact this
        · simp only [bulk, List.map_cons, List.map_nil, List.sum_cons, List.sum_nil]; omega
        rintro e w5 ⟨a5, c5, rfl, h5, hb5⟩
        have HP := Lib.hid ((HPZ.out.alloc (.cells (sv [o.key]).toArray 9)).below hb5 (Nat.le_refl _))
        have G5 := Lib.hid (Grow.trans GZ.out (Grow.trans ((Below.refl _ Z).alloc (Nat.le_refl _) (.cells (sv [o.key]).toArray 9)) hb5))
        obtain ⟨pl, hpl⟩ : ∃ pl, pl = pay o := ⟨_, rfl⟩
        obtain ⟨kk, hkk⟩ : ∃ kk : UInt8, kk = 100 := ⟨_, rfl⟩
        obtain ⟨T, hT⟩ : ∃ T, T = [o.key] := ⟨_, rfl⟩
        rw [← hkk] at HP
        rw [← hT] at h5 ⊢
        have hpo := pay_length o
        have HT : Hid (pl = kk :: enc T ∧ pl.length ≤ 1200020) := Lib.hid ⟨by rw [hpl, hkk, hT]; unfold pay; rw [HO.out.2]; rfl, by rw [hpl]; omega⟩
        have HIN : Hid (pl ∈ recs L) := Lib.hid (by rw [hpl]; unfold recs; exact List.mem_append.2 (.inl (List.mem_map.2 ⟨o, List.mem_of_getElem? HO.out.1, rfl⟩)))
        have HN : Hid ((frms ((L.take k).map pay) ++ frm pl).length ≤ 25300000 ∧ (k < n → frms ((L.take k).map pay) ++ frm pl = frms ((L.take (k + 1)).map pay)) ∧ (k = n → frms ((L.take k).map pay) ++ frm pl = frms (recs L))) := Lib.hid (by
          rw [hpl, ← pays_take HO.out.1]
          refine ⟨?_, fun _ => rfl, fun h => by omega⟩
          have h1 := pays_bulk (L.take (k + 1))
          have h2 := bulkO_take L (k + 1)
          omega)
        clear hpl hkk hT hpo hob hbb hZ gZ x0 x1 x2 hlX s1 s2
      case' inr.inl =>
        have h4 : (k : Int) < (n : Int) := by omega
        go_wp2_with fail
        refine (D _).mono ?_
        rintro e w2 ⟨rfl, hb2⟩
        clear D
        have G2 := Lib.hid (Grow.trans ((Below.refl _ wr).alloc (Nat.le_refl _) _) hb2)
        clear hb2
        have RR := (HR.out.later HBE.out).later G2.out
        obtain ⟨a, o', rfl, ho', q0, q1, q2, s1, s2⟩ := RR.at hlt
        obtain rfl : o = o' := by rw [ho] at ho'; exact Option.some.inj ho'
        rw [hd] at q0
        have HO := Lib.hid (And.intro ho hd)
        have HS := Lib.hid (And.intro s1 s2)
        have hlb := World.block_lt_of_cell? w2 _ q0
        unfold maxLen at s1 s2
        clear ho hd ho' RR
        go_wp2_with fail
        obtain ⟨X, hX⟩ : ∃ X, X = (w2.alloc (.cells #[.string (txt (digs n))] 9)).alloc (.cells #[.int .u8 112] 5) := ⟨_, rfl⟩
        rw [← hX]
        have gX : Grow w2 X := by rw [hX]; exact Grow.trans ((Below.refl _ w2).alloc (Nat.le_refl _) _) ((Below.refl _ _).alloc (Nat.le_refl _) _)
        have HPX : Hid (Bs X wr.heap.size (.slice (some ⟨w2.heap.size + 1, 0, none⟩) 1 1) 1 [112]) := Lib.hid (by
          have h := bs_lit (w2.alloc (.cells #[.string (txt (digs n))] 9)) wr.heap.size [112] 1 rfl (Nat.le_trans G2.out.size (by simp)) (by unfold maxLen; omega)
          rw [show (w2.alloc (.cells #[.string (txt (digs n))] 9)).heap.size = w2.heap.size + 1 by simp] at h
          rw [hX]
          exact h)
        have gY : Grow w2 X.drew := below_drewN gX 1
        have x0 := grow_cell gY q0
        have x1 := grow_cell gY q1
        have x2 := grow_cell gY q2
        have hlX : (a.add (k * 3)).block < X.drew.heap.size := World.block_lt_of_cell? X.drew _ x0
        have GY := Lib.hid gY
        have HW : Hid (Grow X X.drew) := Lib.hid (below_drewN (Below.refl _ X) 1)
        clear q0 q1 q2 hlb hX gX gY
        go_still_tail 10, (by kernel_rfl)
        change wpList _ _ _ _ _ X.drew
        generalize X.drew = Y at *
        go_wp2_with fail
        obtain ⟨Z, hZ⟩ : ∃ Z, Z = Y := ⟨_, rfl⟩
        rw [← hZ]
        have gZ : Grow Y Z := by rw [hZ]; exact Below.refl _ _
        have HPZ : Hid (Bs Z wr.heap.size (.slice (some ⟨w2.heap.size + 1, 0, none⟩) 1 1) 1 [112]) := Lib.hid (by
          rw [hZ]
          exact HPX.out.below HW.out (Nat.le_refl _))
        have GZ := Lib.hid (Grow.trans (Grow.trans G2.out GY.out) gZ)
        have hob := bulkO_mem (List.mem_of_getElem? HO.out.1)
        have hbb := HB.out
        refine (ref_encode _ 2 [o.key, o.val] _ (Texts.lit Z [o.key, o.val] (0, 0) 2 rfl (by unfold maxLen; omega) ?_) ?_).mono ?_
        · intro s hs
          simp only [List.mem_cons, List.not_mem_nil, or_false] at hs
          rcases hs with rfl | rfl
          · exact HS.out.1
          · exact HS.out.2
        · simp only [bulk, List.map_cons, List.map_nil, List.sum_cons, List.sum_nil]; omega
        rintro e w5 ⟨a5, c5, rfl, h5, hb5⟩
        have HP := Lib.hid ((HPZ.out.alloc (.cells (sv [o.key, o.val]).toArray 9)).below hb5 (Nat.le_refl _))
        have G5 := Lib.hid (Grow.trans GZ.out (Grow.trans ((Below.refl _ Z).alloc (Nat.le_refl _) (.cells (sv [o.key, o.val]).toArray 9)) hb5))
        obtain ⟨pl, hpl⟩ : ∃ pl, pl = pay o := ⟨_, rfl⟩
        obtain ⟨kk, hkk⟩ : ∃ kk : UInt8, kk = 112 := ⟨_, rfl⟩
        obtain ⟨T, hT⟩ : ∃ T, T = [o.key, o.val] := ⟨_, rfl⟩
        rw [← hkk] at HP
        rw [← hT] at h5 ⊢
        have hpo := pay_length o
        have HT : Hid (pl = kk :: enc T ∧ pl.length ≤ 1200020) := Lib.hid ⟨by rw [hpl, hkk, hT]; unfold pay; rw [HO.out.2]; rfl, by rw [hpl]; omega⟩
        have HIN : Hid (pl ∈ recs L) := Lib.hid (by rw [hpl]; unfold recs; exact List.mem_append.2 (.inl (List.mem_map.2 ⟨o, List.mem_of_getElem? HO.out.1, rfl⟩)))
        have HN : Hid ((frms ((L.take k).map pay) ++ frm pl).length ≤ 25300000 ∧ (k < n → frms ((L.take k).map pay) ++ frm pl = frms ((L.take (k + 1)).map pay)) ∧ (k = n → frms ((L.take k).map pay) ++ frm pl = frms (recs L))) := Lib.hid (by
          rw [hpl, ← pays_take HO.out.1]
          refine ⟨?_, fun _ => rfl, fun h => by omega⟩
          have h1 := pays_bulk (L.take (k + 1))
          have h2 := bulkO_take L (k + 1)
          omega)
        clear hpl hkk hT hpo hob hbb hZ gZ x0 x1 x2 hlX s1 s2
      case' inr.inr =>
        have h4 : ¬ (k : Int) < (n : Int) := by omega
        have HK := Lib.hid hkn
        clear hkn
        go_wp2_with fail
        refine (D _).mono ?_
        rintro e w2 ⟨rfl, hb2⟩
        clear D
        have HP2 := Lib.hid ((bs_lit wr wr.heap.size [99] 1 rfl (Nat.le_refl _) (by unfold maxLen; omega)).below hb2 (by simp))
        have G2 := Lib.hid (Grow.trans ((Below.refl _ wr).alloc (Nat.le_refl _) _) hb2)
        clear hb2
        have hfl := fin_length (n := n) (by omega)
        have hsz : 8 + (txt (digs n)).size = (enc [txt (digs n)]).length := (enc1_length _).symm
        go_wp2_with fail
        refine (ref_encode _ 1 [txt (digs n)] _ (Texts.lit w2 [txt (digs n)] (0, 0) 1 rfl (by unfold maxLen; omega) ?_) ?_).mono ?_
        · intro s hs
          simp only [List.mem_singleton] at hs
          subst hs
          unfold fin at hfl; rw [List.length_cons] at hfl
          unfold maxLen; omega
        · unfold fin at hfl; rw [List.length_cons] at hfl
          simp only [bulk, List.map_cons, List.map_nil, List.sum_cons, List.sum_nil]; omega
        rintro e w5 ⟨a5, c5, rfl, h5, hb5⟩
        have HP := Lib.hid ((HP2.out.alloc (.cells (sv [txt (digs n)]).toArray 9)).below hb5 (Nat.le_refl _))
        have G5 := Lib.hid (Grow.trans G2.out (Grow.trans ((Below.refl _ w2).alloc (Nat.le_refl _) (.cells (sv [txt (digs n)]).toArray 9)) hb5))
        obtain ⟨pl, hpl⟩ : ∃ pl, pl = fin n := ⟨_, rfl⟩
        obtain ⟨kk, hkk⟩ : ∃ kk : UInt8, kk = 99 := ⟨_, rfl⟩
        obtain ⟨T, hT⟩ : ∃ T, T = [txt (digs n)] := ⟨_, rfl⟩
        rw [← hkk] at HP
        rw [← hT] at h5 ⊢
        have HT : Hid (pl = kk :: enc T ∧ pl.length ≤ 1200020) := Lib.hid ⟨by rw [hpl, hkk, hT]; rfl, by rw [hpl]; omega⟩
        have HIN : Hid (pl ∈ recs L) := Lib.hid (by rw [hpl, HR.out.1]; unfold recs; exact List.mem_append.2 (.inr (List.mem_singleton.2 rfl)))
        have HN : Hid ((frms ((L.take k).map pay) ++ frm pl).length ≤ 25300000 ∧ (k < n → frms ((L.take k).map pay) ++ frm pl = frms ((L.take (k + 1)).map pay)) ∧ (k = n → frms ((L.take k).map pay) ++ frm pl = frms (recs L))) := Lib.hid (by
          have e : L.take k = L := List.take_of_length_le (by have := HK.out; have := HR.out.1; omega)
          refine ⟨?_, fun h => by have := HK.out; omega, fun _ => ?_⟩
          · have := pays_bulk L; have := HB.out; rw [e, List.length_append, frm_length, hpl]; omega
          · rw [e, hpl, recs, frms_snoc, ← HR.out.1])
        clear hpl hkk hT hfl hsz HP2 HK
      all_goals
        have hlT : (enc T).length + 1 = pl.length := by rw [HT.out.1]; simp
        have hlT2 := HT.out.2
        obtain ⟨q, hq⟩ : ∃ q, q = (enc T).length := ⟨_, rfl⟩
        have HQ := Lib.hid (And.intro hq hlT)
        rw [← hq] at h5 ⊢
        have hq6 : q ≤ 1200020 := by omega
        have F1 : Hid (q + 1 ≤ maxLen) := Lib.hid (by unfold maxLen; omega)
        have F2 : Hid ((q + 1) * 1 ≤ 140737488355328) := Lib.hid (by omega)
        have H5 := Lib.hid h5.reads
        have hsz5 : wr.heap.size ≤ w5.heap.size := G5.out.size
        clear h5 hq hlT hlT2 hb5
        go_wp2_with (at_builtin; refine wpList_append_bytes rfl (.tmp 52) (.tmp 54) rfl wr.heap.size _ 1 [kk] rfl HP.out (.slice a5 q c5) q (enc T) HQ.out.1 rfl H5.out (q + 1) (Nat.add_comm q 1) F1 F2 hsz5 ?_; intro ao6 c6 w6 hown6 hb6)
        have G6 : Hid (Grow wr w6) := Lib.hid (Below.trans (show Below wr.heap.size wr w5 from G5.out) hb6)
        have hpl : [kk] ++ enc T = pl := HT.out.1.symm
        rw [hpl] at hown6
        have H6 := Lib.hid hown6.reads
        clear hown6 hb6 hpl
        by_cases hlong : ¬ q + 1 ≤ 1048576
        · refine (ref_frame_long _ (q + 1) pl w6 H6.out (by rw [HQ.out.1]; exact HQ.out.2) hlong).mono ?_
          rintro e w7 ⟨rfl, rfl⟩
          have G7 := Lib.hid (Below.trans HBE.out (G6.out.mono HBE.out.size))
          have HLO : Hid (¬ pl.length ≤ 1048576) := Lib.hid (by have := HQ.out.2; have := HQ.out.1; omega)
          clear hlong F1 F2
          go_wp2_with fail
          go_ret2
          exact ⟨none, 0, 0, 9, rfl, (fun h => by cases h), fun h => absurd (h pl HIN.out) HLO.out, G7.out⟩
        have hshort : q + 1 ≤ 1048576 := by omega
        clear hlong
        refine (ref_frame _ (q + 1) pl w6 H6.out (by rw [HQ.out.1]; exact HQ.out.2) hshort).mono ?_
        rintro e w7 ⟨ao7, c7, rfl, hown7, hb7⟩
        have H7 := Lib.hid hown7
        have G7 := Lib.hid (Grow.trans G6.out hb7)
        have HA7 := Lib.hid (HA.out.below G7.out (Nat.le_refl _))
        have B7 := Lib.hid (HBE.out.trans (G7.out.mono HBE.out.size))
        obtain ⟨s, hs⟩ : ∃ s, s = r + (q + 1 + 8) := ⟨_, rfl⟩
        have F3 : Hid (s ≤ maxLen) := Lib.hid (by unfold maxLen; omega)
        have F4 : Hid (s * 1 ≤ 140737488355328) := Lib.hid (by omega)
        have HSS := Lib.hid hs
        clear hown7 hb7 hs F1 F2 hshort
        go_wp2_with (at_builtin; refine wpList_append_bytes rfl (.tmp 64) (.tmp 65) rfl w1.heap.size _ r _ rfl HA7.out (.slice ao7 (q + 1 + 8) c7) (q + 1 + 8) (frm pl) H7.out.1 rfl H7.out.reads s HSS.out F3 F4 B7.out.size ?_; intro ao8 c8 w8 hown8 hb8)
        refine ⟨⟨k + 1, s, c8, ao8, by omega, by simp, rfl, Lib.hid ⟨?_, fun h => ?_, fun h => ?_, B7.out.trans hb8⟩⟩, by simp only [intOf]; omega⟩
        · have := HN.out.1; rw [← hown8.1] at this; exact this
        · rw [← HN.out.2.1 (by omega)]; exact hown8
        · rw [← HN.out.2.2 (by omega)]; exact hown8
theorem recs_few {L : List Opm} (hb : bulkO L ≤ 5000) : ∀ p ∈ recs L, p.length ≤ 1048576 := by
  intro p hp
  unfold recs at hp
  rcases List.mem_append.1 hp with h | h
  · obtain ⟨o, ho, rfl⟩ := List.mem_map.1 h
    have := pay_length o
    have := bulkO_mem ho
    omega
  · rw [List.mem_singleton.1 h]
    have := fin_length (n := L.length) (by have := bulkO_length L; omega)
    omega
theorem ref_ops (v : Value) (n : Nat) (L : List Opm) (w : World) (hr : Opr w v n L) (hok : okOps L = true) (hb : bulkO L ≤ 5000) :
    Calls Tryz.prog 99 #[v] w fun e w' => ∃ ao m c, e = .returned (.tuple #[.slice ao m c, .int .i64 0]) ∧ Bs w' w.heap.size (.slice ao m c) m (frms (recs L)) ∧ Below w.heap.size w w' := by
  refine (ref_ops_upto v n L w hr hok (by omega)).mono ?_
  rintro e w' ⟨ao, m, c, z, rfl, h1, h2, h3⟩
  obtain rfl := h2 (recs_few hb)
  exact ⟨ao, m, c, rfl, h1 rfl, h3⟩
theorem ref_ops_bad (v : Value) (n : Nat) (L : List Opm) (w : World) (hr : Opr w v n L) (hok : okOps L = false) :
    Calls Tryz.prog 99 #[v] w fun e w' => e = .returned (.tuple #[.slice none 0 0, .int .i64 1]) ∧ w' = w := by
  have R := right_ref _ n L w hr
  rw [hok] at R
  clear hr hok
  go_enter Tryz.func99, Tryz.ntmps99
  go_wp2_with fail
  refine R.mono ?_
  rintro e w1 ⟨rfl, rfl⟩
  clear R
  go_wp2_with fail
  go_ret2
  exact ⟨rfl, rfl⟩
end Go.Proofs.YthcdkggkoanjpaaGreatDoor
