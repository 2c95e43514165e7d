/- slices.Grow of nothing, slices.Concat, bytes.Clone at bytes. Numbers and types by name. -/
import Derived.Test.YthacjeeafnblmaaGreatDoorCen
import Derived.Test.YthacjeeafnblmaaGreatDoorCdc
import Derived.Test.YthacjeeafnblmaaGreatDoorWpl
import Derived.Test.YthacjeeafnblmaaGreatDoorOws
import Derived.Test.YthacjeeafnblmaaGreatDoorOpl
import Derived.Lib.AppendZerosOnto
import Derived.Lib.SliceRun
/- The code's payloads: payload, operation, count, parts. Numbers and types by name. -/
namespace Go.Proofs.YthacjeeafnblmaaGreatDoor
open Go.RowKit Go.Lib

theorem count_any (v : Value) (n : Nat) (L : List Opm) (w : World) (hr : Opr w v n L) (ht : Tab w) :
    Calls Tryz.prog 78 #[v] w fun e w' => e = .returned (.string (txt (digs n))) ∧ Below w.heap.size w w' := by
  obtain ⟨ao, c, rfl⟩ := hr.shape
  have G := itoa_any n w hr.2.1 ht
  clear hr
  go_enter Tryz.func78, Tryz.ntmps78
  go_wp2_with fail
  refine G.mono ?_
  rintro e w' ⟨rfl, hb⟩
  go_wp2_with fail
  go_ret
  exact ⟨rfl, hb⟩

theorem payload_any (k : UInt8) (v : Value) (n : Nat) (T : List ByteArray) (w : World) (hr : Texts w v n T) (hb : bulk T ≤ 10000) :
    Calls Tryz.prog 77 #[.int .u8 (k.toNat : Int), v] w fun e w' => ∃ ao m c, e = .returned (.slice ao m c) ∧ Bs w' w.heap.size (.slice ao m c) m (k :: enc T) ∧ Below w.heap.size w w' := by
  obtain ⟨ao, c, rfl⟩ := hr.shape
  have hkl := k.toNat_lt
  have G := encode_any _ n T (w.alloc (.cells #[.int .u8 (k.toNat : Int)] 5)) (hr.later ((Below.refl _ w).alloc (Nat.le_refl _) _)) hb
  have HP := Lib.hid (bs_lit w w.heap.size [k] 1 rfl (Nat.le_refl _) (by unfold maxLen; omega))
  have HL : Hid ((enc T).length ≤ 60000) := Lib.hid (by
    have h1 := encs_length T
    have h2 := bulk_length T
    simp only [enc, List.length_append, be4_length]; omega)
  have hW : Hid (Below w.heap.size w (w.alloc (.cells #[.int .u8 (k.toNat : Int)] 5))) := Lib.hid ((Below.refl _ w).alloc (Nat.le_refl _) _)
  clear hr hb
  go_enter Tryz.func77, Tryz.ntmps77
  go_wp2_with fail
  refine G.mono ?_
  rintro e w2 ⟨a2, c2, rfl, h2, hb2⟩
  obtain ⟨q, hq⟩ : ∃ q, q = (enc T).length := ⟨_, rfl⟩
  have HQ := Lib.hid hq
  rw [← hq] at h2 HL ⊢
  have HP2 := Lib.hid (HP.out.below hb2 (Nat.le_refl _))
  have HR2 := Lib.hid h2.reads
  have HB2 := Lib.hid (hW.out.trans (hb2.mono hW.out.size))
  have F1 : Hid (1 + q ≤ maxLen) := Lib.hid (by have := HL.out; unfold maxLen; omega)
  have F2 : Hid ((1 + q) * 1 ≤ 140737488355328) := Lib.hid (by have := HL.out; omega)
  clear G HP hW hb2 h2 hq
  go_wp2_with (at_builtin; refine wpList_append_bytes rfl (.tmp 6) (.tmp 8) rfl w.heap.size _ 1 [k] rfl HP2.out (.slice a2 q c2) q (enc T) HQ.out rfl HR2.out (1 + q) rfl F1 F2 HB2.out.size ?_; intro ao6 c6 w6 hown6 hb6)
  go_ret
  exact ⟨ao6, _, c6, rfl, hown6, HB2.out.trans hb6⟩

theorem operation_any (o : Opm) (w : World) (hb : 1 + o.key.size + o.val.size ≤ 5000) :
    Calls Tryz.prog 76 #[.agg #[.bool o.del, .string o.key, .string o.val]] w fun e w' => ∃ ao m c, e = .returned (.slice ao m c) ∧ Bs w' w.heap.size (.slice ao m c) m (pay o) ∧ Below w.heap.size w w' := by
  obtain ⟨d, k, v⟩ := o
  simp only at hb
  have HB := Lib.hid hb
  clear hb
  have hk : k.size ≤ maxLen := by have := HB.out; unfold maxLen; omega
  have hv : v.size ≤ maxLen := by have := HB.out; unfold maxLen; omega
  cases d with
  | true =>
    go_enter Tryz.func76, Tryz.ntmps76
    go_wp2_with fail
    obtain ⟨X, hX⟩ : ∃ X, X = w.alloc (.cells #[.bool true, .string k, .string v] 68) := ⟨_, rfl⟩
    have hxs : w.heap.size + 1 = X.heap.size := by rw [hX]; simp
    have hw : Hid (Below w.heap.size w X) := Lib.hid (by rw [hX]; exact (Below.refl _ w).alloc (Nat.le_refl _) _)
    rw [← hX, hxs]
    clear hX
    refine (payload_any 100 _ 1 [k] _ (Texts.lit X [k] (0, 0) 1 rfl (by unfold maxLen; omega) (by intro s hs; simp only [List.mem_singleton] at hs; subst hs; exact hk)) (by have := HB.out; simp only [bulk, List.map_cons, List.map_nil, List.sum_cons, List.sum_nil]; omega)).mono ?_
    rintro e w2 ⟨a2, m, c2, rfl, h2, hb2⟩
    have HX := Lib.hid (And.intro h2 hb2)
    clear h2 hb2
    go_wp2_with fail
    go_ret
    have hw2 : Below w.heap.size w (X.alloc (.cells (sv [k]).toArray 9)) := hw.out.alloc hw.out.size _
    exact ⟨a2, m, c2, rfl, HX.out.1.base hw2.size, hw2.trans (HX.out.2.mono hw2.size)⟩
  | false =>
    go_enter Tryz.func76, Tryz.ntmps76
    go_wp2_with fail
    obtain ⟨X, hX⟩ : ∃ X, X = w.alloc (.cells #[.bool false, .string k, .string v] 68) := ⟨_, rfl⟩
    have hxs : w.heap.size + 1 = X.heap.size := by rw [hX]; simp
    have hw : Hid (Below w.heap.size w X) := Lib.hid (by rw [hX]; exact (Below.refl _ w).alloc (Nat.le_refl _) _)
    rw [← hX, hxs]
    clear hX
    refine (payload_any 112 _ 2 [k, v] _ (Texts.lit X [k, v] (0, 0) 2 rfl (by unfold maxLen; omega) (by intro s hs; simp only [List.mem_cons, List.not_mem_nil, or_false] at hs; rcases hs with rfl | rfl <;> assumption)) (by have := HB.out; simp only [bulk, List.map_cons, List.map_nil, List.sum_cons, List.sum_nil]; omega)).mono ?_
    rintro e w2 ⟨a2, m, c2, rfl, h2, hb2⟩
    have HX := Lib.hid (And.intro h2 hb2)
    clear h2 hb2
    go_wp2_with fail
    go_ret
    have hw2 : Below w.heap.size w (X.alloc (.cells (sv [k, v]).toArray 9)) := hw.out.alloc hw.out.size _
    exact ⟨a2, m, c2, rfl, HX.out.1.base hw2.size, hw2.trans (HX.out.2.mono hw2.size)⟩

/-- What parts tells: a kind, and texts, of which the payload is. -/
def PartsDone (l : List UInt8) (w : World) (e : Ending) (w' : World) : Prop :=
  Below w.heap.size w w' ∧ ∃ (k : UInt8) (T : List ByteArray) (n : Nat) (ao : Option Addr) (c : Nat), e = .returned (.tuple #[.int .u8 (k.toNat : Int), .slice ao n c]) ∧ Texts w' (.slice ao n c) n T ∧ ∀ j, what l j = isWhat k T j

theorem what_none' {p : List UInt8} (n : Nat) (h : p = [] ∨ ∃ k r, p = k :: r ∧ dec r = none) : what p n = .stop := by
  rcases h with rfl | ⟨k, r, rfl, h⟩
  · rfl
  · unfold what; simp [h]
theorem what_some' {p : List UInt8} {k : UInt8} {r : List UInt8} {t : List ByteArray} (n : Nat) (h : p = k :: r) (ht : dec r = some t) : what p n = isWhat k t n := by
  subst h; unfold what; simp [ht]

theorem parts_any (v : Value) (m : Nat) (l : List UInt8) (w : World) (hr : Reads w v (bv l)) (hm : m = l.length) (hl : m ≤ maxLen) :
    Calls Tryz.prog 87 #[v] w (PartsDone l w) := by
  obtain ⟨ao, c, rfl⟩ : ∃ ao c, v = .slice ao m c := by obtain ⟨ao, c, rfl, _⟩ := hr; exact ⟨ao, c, by rw [bv_length, hm]⟩
  cases l with
  | nil =>
    obtain rfl : m = 0 := hm
    clear hr hl
    go_enter Tryz.func87, Tryz.ntmps87
    go_wp2_with fail
    go_ret2
    exact ⟨Below.refl _ _, 0, [], 0, none, 0, rfl, ⟨rfl, Reads.nil _, Nat.zero_le _, fun s h => by cases h⟩, fun j => rfl⟩
  | cons x r =>
    obtain ⟨q, hq⟩ : ∃ q, q = r.length + 1 := ⟨_, rfl⟩
    have hpl2 : (x :: r).length = q := by rw [hq]; rfl
    obtain rfl : m = q := by rw [hm, hpl2]
    have hq0 : ¬ (m : Int) = 0 := by omega
    have hq1 : (1 : Int) ≤ (m : Int) := by omega
    obtain ⟨b, rfl⟩ : ∃ b, ao = some b := by
      obtain ⟨ao', c', e, _, hn0, _⟩ := hr
      cases ao with
      | some b => exact ⟨b, rfl⟩
      | none =>
        simp only [Value.slice.injEq] at e
        have := (hn0 e.1.symm).1
        simp [bv] at this
    have hqc : m ≤ c := by
      obtain ⟨_, _, e, h0, _⟩ := hr
      simp only [Value.slice.injEq, bv_length] at e h0
      rw [hpl2] at h0
      omega
    have hx : w.cell? b = some (.int .u8 (x.toNat : Int)) := by
      obtain ⟨y1, y2, y3, y4, y5⟩ := hr.byte (k := 0) (by omega)
      simp only [Option.some.injEq] at y3
      subst y3
      simp only [List.getElem?_cons_zero, Option.some.injEq] at y4
      subst y4
      simpa [Addr.add] using y5
    obtain ⟨bz, hbz, jz⟩ : ∃ bz, (if c = 1 then some b else some { block := b.block, off := b.off + 1 }) = some bz ∧ (bz = b.add 1 ∨ (x :: r).length = 1) := by
      by_cases h : c = 1
      · exact ⟨b, by rw [if_pos h], .inr (by omega)⟩
      · exact ⟨_, by rw [if_neg h], .inl (by simp [Addr.add])⟩
    have hrd1 : Reads w (.slice (some bz) (m - 1) (c - 1)) (bv r) := hr.drop 1 (by omega) bz jz
    have HQ := Lib.hid hq
    have G := decode_anyL _ (m - 1) r w hrd1 (by omega) (Lib.hid (by unfold maxLen at hl ⊢; omega))
    have hx256 := x.toNat_lt
    clear hr hrd1 jz hpl2 hq hm
    unfold maxLen at hl
    go_enter Tryz.func87, Tryz.ntmps87
    go_wp2_with fail
    refine G.mono ?_
    rintro e w2 ⟨hb2, ⟨T, at_, ct, hT, rfl, hTx⟩ | ⟨hT, rfl⟩⟩
    · have hx2 := grow_cell hb2 hx
      have HX := Lib.hid (And.intro hT (And.intro hTx hb2))
      obtain ⟨tn, htn⟩ : ∃ tn, tn = T.length := ⟨_, rfl⟩
      rw [← htn] at hTx ⊢
      have HT := Lib.hid hTx
      clear hT hTx hb2 hx htn G hbz
      go_wp2_with fail
      go_ret2
      exact ⟨HX.out.2.2, x, T, tn, at_, ct, rfl, HT.out, fun j => what_some' j rfl HX.out.1⟩
    · have hx2 := grow_cell hb2 hx
      have HX := Lib.hid (And.intro hT hb2)
      clear hT hb2 hx G hbz
      go_wp2_with fail
      go_ret2
      exact ⟨HX.out.2, x, [], 0, none, 0, rfl, ⟨rfl, Reads.nil _, Nat.zero_le _, fun s h => by cases h⟩, fun j => what_none' j (.inr ⟨x, r, rfl, HX.out.1⟩)⟩

end Go.Proofs.YthacjeeafnblmaaGreatDoor

/- The code's Right. Numbers and types by name. -/
namespace Go.Proofs.YthacjeeafnblmaaGreatDoor
open Go.RowKit Go.Lib

theorem right_any (v : Value) (n : Nat) (L : List Opm) (w : World) (hr : Opr w v n L) :
    Calls Tryz.prog 74 #[v] w fun e w' => e = .returned (.bool (okOps L)) ∧ Below w.heap.size w w' := by
  obtain ⟨ao, c, rfl⟩ := hr.shape
  have HR := Lib.hid hr
  have hm := hr.2.1
  unfold maxLen at hm
  clear hr
  by_cases hbig : 1000 < n
  · have h3 : (1000 : Int) < (n : Int) := by omega
    have HS : Hid (okOps L = false) := Lib.hid (by
      have := HR.out.1
      unfold okOps
      rw [decide_eq_false (by omega), Bool.and_false])
    go_enter Tryz.func74, Tryz.ntmps74
    go_wp2_with fail
    go_ret
    rw [HS.out]
    exact ⟨rfl, Below.refl _ _⟩
  have h3 : ¬ (1000 : Int) < (n : Int) := by omega
  go_enter Tryz.func74, Tryz.ntmps74
  go_wp2_with fail
  go_loopw [10] (fun i wr => ∃ k : Nat, k ≤ n ∧ i = .int .i64 k ∧ Hid ((L.take k).all okOp = true ∧ Below w.heap.size w wr))
    (fun i _ => n - (RowKit.intOf i).toNat)
  case atStart => exact ⟨0, Nat.zero_le _, rfl, Lib.hid ⟨by simp, Below.refl _ _⟩⟩
  case round =>
    obtain ⟨k, hk, rfl, hrel⟩ := hrel
    by_cases hlt : k < n
    · have h4 : (k : Int) < (n : Int) := by omega
      obtain ⟨a, o, rfl, ho, c0, c1, c2, s1, s2⟩ := (HR.out.later hrel.out.2).at hlt
      have HO := Lib.hid ho
      clear ho
      have step : (L.take (k + 1)).all okOp = okOp o := by rw [take_next HO.out, List.all_append, hrel.out.1]; simp
      have HB : Hid (∀ ob, Below w.heap.size w (wr.alloc ob)) := Lib.hid fun ob => hrel.out.2.alloc hrel.out.2.size _
      cases hd : o.del with
      | false =>
        rw [hd] at c0
        have HS : Hid ((L.take (k + 1)).all okOp = true) := Lib.hid (by rw [step]; simp [okOp, hd])
        clear step hd
        go_wp2_with fail
        exact ⟨⟨k + 1, by omega, by simp, Lib.hid ⟨HS.out, HB.out _⟩⟩, by simp [RowKit.intOf]; omega⟩
      | true =>
        rw [hd] at c0
        cases hv : o.val.toList.isEmpty with
        | true =>
          have HS : Hid ((L.take (k + 1)).all okOp = true) := Lib.hid (by rw [step]; simp [okOp, hv])
          clear step hd
          go_wp2_with fail
          exact ⟨⟨k + 1, by omega, by simp, Lib.hid ⟨HS.out, HB.out _⟩⟩, by simp [RowKit.intOf]; omega⟩
        | false =>
          have HS : Hid (okOps L = false) := Lib.hid (by
            have e : L = L.take (k + 1) ++ L.drop (k + 1) := (List.take_append_drop _ _).symm
            have e2 : L.all okOp = false := by
              rw [e, List.all_append, step]
              simp [okOp, hv, hd]
            simp [okOps, e2])
          clear step hd
          go_wp2_with fail
          go_ret
          rw [HS.out]
          exact ⟨rfl, HB.out _⟩
    · have h4 : ¬ (k : Int) < (n : Int) := by omega
      obtain rfl : k = n := by omega
      have hk2 : L.take k = L := List.take_of_length_le (by have := HR.out.1; omega)
      have e : okOps L = true := by
        have h1 := hrel.out.1
        have h2 := HR.out.1
        rw [hk2] at h1
        unfold okOps
        rw [h1, Bool.true_and]
        simp only [decide_eq_true_eq]
        omega
      have HE := Lib.hid e
      clear hk2 e
      go_wp2_with fail
      go_ret
      rw [HE.out]
      exact ⟨rfl, hrel.out.2⟩

end Go.Proofs.YthacjeeafnblmaaGreatDoor

/- More and Sum. Numbers and types by name. -/
namespace Go.Proofs.YthacjeeafnblmaaGreatDoor
open Go.RowKit Go.Lib

theorem shifted_any (c : BitVec 32) (w : World) :
    Calls Tryz.prog 121 #[.int .u32 (c.toNat : Int)] w fun e w' => e = .returned (.int .u32 ((sh c).toNat : Int)) ∧ w = w' := by
  have hlt := c.isLt
  cases hlow : c.getLsbD 0 with
  | true =>
    have f1 := low_one hlow
    have f2 := step_one hlow
    have f3 : bits .and .u32 3988292384 4294967295 = 3988292384 := by decide
    generalize sh c = d at *
    clear hlow
    go_enter Tryz.func121, Tryz.ntmps121
    go_wp2_with fail
    go_ret
    exact ⟨rfl, rfl⟩
  | false =>
    have f1 := low_none hlow
    have f2 := step_none hlow
    have f3 : bits .and .u32 3988292384 0 = 0 := by decide
    have f4 : bits .xor .u32 ((sh c).toNat : Int) 0 = ((sh c).toNat : Int) := by
      have := bits_xor_u32 (sh c) 0#32
      rw [BitVec.xor_zero] at this
      exact this
    generalize sh c = d at *
    clear hlow
    go_enter Tryz.func121, Tryz.ntmps121
    go_wp2_with fail
    go_ret
    exact ⟨rfl, rfl⟩

theorem more_any (s : Int) (v : Value) (m : Nat) (l : List UInt8) (w : World) (hr : Reads w v (bv l)) (hm : m = l.length) (hl : Hid (m ≤ 1000000000)) :
    Calls Tryz.prog 107 #[.int .i64 s, v] w fun e w' => e = .returned (.int .i64 (sumOf s l)) ∧ w' = w := by
  obtain ⟨ao, c, rfl⟩ : ∃ ao c, v = .slice ao m c := by obtain ⟨ao, c, rfl, _⟩ := hr; exact ⟨ao, c, by rw [bv_length, hm]⟩
  have hb := begun_not s
  have hl' := hl.out
  have HR := Lib.hid (And.intro hr hm)
  clear hr hm
  go_enter Tryz.func107, Tryz.ntmps107
  go_wp2_with fail
  clear hb
  go_loopw [5, 13] (fun cv i wr => ∃ k : Nat, k ≤ m ∧ i = .int .i64 k ∧ cv = .int .u32 ((crc (begun s) (l.take k)).toNat : Int) ∧ w = wr)
    (fun _ i _ => m - (intOf i).toNat)
  case atStart => exact ⟨0, Nat.zero_le _, rfl, rfl, rfl⟩
  case round =>
    obtain ⟨k, hk, rfl, rfl, rfl⟩ := hrel
    by_cases hlt : k < m
    · have h3 : (k : Int) < (m : Int) := by omega
      obtain ⟨x, hx⟩ : ∃ x, l[k]? = some x := ⟨l[k]'(by have := HR.out.2; omega), List.getElem?_eq_getElem (by have := HR.out.2; omega)⟩
      obtain ⟨a, rfl, hc⟩ : ∃ a, ao = some a ∧ w.cell? (a.add k) = some (.int .u8 (x.toNat : Int)) := by
        obtain ⟨ao', c', e, _, hn, h2⟩ := HR.out.1
        simp only [Value.slice.injEq] at e
        obtain ⟨rfl, _, _⟩ := e
        cases ao with
        | none => have := (hn rfl).1; have : l = [] := by simpa [bv] using this
                  subst this; simp at hx
        | some a => exact ⟨a, rfl, h2 a rfl k _ (by simp [bv, hx])⟩
      have hxor := byte_xor (crc (begun s) (l.take k)) x
      have HN := Lib.hid (crc_take (begun s) hx)
      have hx256 := x.toNat_lt
      clear hx
      generalize crc (begun s) (l.take k) = c0 at *
      generalize hd : c0 ^^^ BitVec.ofNat 32 x.toNat = d at *
      have HD := Lib.hid hd
      clear hd
      go_wp2_with fail
      clear hxor hc
      go_loopw [5, 21] (fun cv i wr => ∃ j : Nat, j ≤ 8 ∧ i = .int .i64 j ∧ cv = .int .u32 ((shs j d).toNat : Int) ∧ w = wr)
        (fun _ i _ => 8 - (intOf i).toNat)
      case atStart => exact ⟨0, by omega, rfl, rfl, rfl⟩
      case round =>
        obtain ⟨j, hj, rfl, rfl, rfl⟩ := hrel
        by_cases hj8 : j < 8
        · have h4 : (j : Int) < 8 := by omega
          have hsucc := shs_succ j d
          have HS := Lib.hid hsucc
          clear hsucc
          go_wp2_with fail
          refine (shifted_any (shs j d) w).mono ?_
          rintro e w' ⟨rfl, rfl⟩
          rw [← HS.out]
          go_wp2_with fail
          exact ⟨⟨j + 1, by omega, by simp, rfl, trivial⟩, by simp [intOf]; omega⟩
        · obtain rfl : j = 8 := by omega
          go_wp2_with fail
          refine ⟨⟨k + 1, by omega, by simp, ?_, trivial⟩, by simp [intOf]; omega⟩
          rw [HN.out]
          unfold feed
          rw [HD.out]
    · obtain rfl : k = m := by omega
      have h3 : ¬ (k : Int) < (k : Int) := by omega
      have hk2 : l.take k = l := List.take_of_length_le (by have := HR.out.2; omega)
      rw [hk2]
      have he := ended_not (crc (begun s) l)
      have hbd := sumOf_bound s l
      rw [show ((crc (begun s) l ^^^ ones).toNat : Int) = sumOf s l from rfl] at he
      have hwz : wrap64 (sumOf s l) = sumOf s l := by unfold wrap64; omega
      generalize hz : sumOf s l = z at *
      have HZ := Lib.hid hz
      clear hbd hz
      go_wp2_with fail
      go_ret
      rw [HZ.out]
      exact ⟨rfl, rfl⟩

theorem sum_any (v : Value) (m : Nat) (l : List UInt8) (w : World) (hr : Reads w v (bv l)) (hm : m = l.length) (hl : Hid (m ≤ 1000000000)) :
    Calls Tryz.prog 85 #[v] w fun e w' => e = .returned (.int .i64 (sumOf 0 l)) ∧ w' = w := by
  have G := more_any 0 v m l w hr hm hl
  go_enter Tryz.func85, Tryz.ntmps85
  go_wp2_with (go_at_call 107; refine G.mono ?_; rintro e w' ⟨rfl, rfl⟩)
  go_ret
  first | exact rfl | exact ⟨rfl, rfl⟩

end Go.Proofs.YthacjeeafnblmaaGreatDoor

namespace Go.Proofs.YthacjeeafnblmaaGreatDoor
open Go.RowKit Go.Lib

theorem grow_any (n : Nat) (w : World) (hn : Hid (n ≤ 1000000000)) :
    Calls Tryz.prog 111 #[.slice none 0 0, .int .i64 n] w fun e w' => ∃ ao c, e = .returned (.slice ao 0 c) ∧ Bs w' w.heap.size (.slice ao 0 c) 0 [] ∧ Below w.heap.size w w' := by
  have hn' := hn.out
  rcases Nat.eq_zero_or_pos n with rfl | h0
  · go_enter Tryz.func111, Tryz.ntmps111
    go_wp2_with fail
    go_ret
    exact ⟨none, 0, rfl, ⟨rfl, World.ownsRow_nil _ _ _ _⟩, Below.refl _ _⟩
  · obtain ⟨i0, hi, hz0, hz1, hz2⟩ := info_parts info_byte
    have hrz : ∀ ty, (Builtin.append_ #[24, 3] ty #[.slice none 0 0, .int .i64 (n : Int)]).run Tryz.prog w = .ok (.slice (some ⟨w.heap.size, 0, none⟩) n (grownCap w n 0 5)) (w.drew.alloc (.cells (Builtin.zeroCells (Value.int .u8 0).cells n ++ Builtin.zeroCells (Value.int .u8 0).cells (grownCap w n 0 5 - n)) 5)) := fun ty =>
      Lib.run_append_nil_zeros w 24 3 ty 5 i0 (.int .u8 0) .i64 .i64 Tryz.underlying24 Tryz.underlying3 hi hz0 n h0 (by omega) (by omega) (by rw [hz2]; omega)
    have hGn : n ≤ grownCap w n 0 5 := grownCap_ge w _ _ _
    have hGm := grownCap_le_maxLen w n 0 5 (by unfold maxLen; omega)
    obtain ⟨G, hG⟩ : ∃ G, G = grownCap w n 0 5 := ⟨_, rfl⟩
    rw [← hG] at hrz hGn hGm
    obtain ⟨C, hC, hCs⟩ : ∃ C : Array Value, C = Builtin.zeroCells (Value.int .u8 0).cells n ++ Builtin.zeroCells (Value.int .u8 0).cells (G - n) ∧ C.size = G * 1 := ⟨_, rfl, by
      have e : (Value.int .u8 0).cells.size = 1 := rfl
      simp only [Builtin.zeroCells, Array.size_append, Array.size_map, Array.size_range, e]
      omega⟩
    rw [← hC] at hrz
    have HRZ := Lib.hid hrz
    have HG := Lib.hid (And.intro hGm (And.intro hCs hGn))
    have hG63 : G ≤ 9223372036854775807 := by unfold maxLen at hGm; omega
    have e1 : wrap64 ((0 : Int) - 0) = 0 := by rw [Int.sub_zero]; exact wrap64_id _ (by omega)
    have e2 : wrap64 ((n : Int) - 0) = (n : Int) := by rw [Int.sub_zero]; exact wrap64_id _ (by omega)
    have h1 : ¬ ((n : Int) < 0) := by omega
    have h2 : (n : Int) > 0 := by omega
    clear hrz hi hz0 hz1 hz2 hG hC hGm hCs
    go_enter Tryz.func111, Tryz.ntmps111
    go_wp2_with (at_builtin; refine Lib.wpList_append_run _ rfl _ _ _ _ rfl _ _ rfl rfl _ _ (HRZ.out _) ?_)
    go_ret
    obtain ⟨hGm, hCs, hGn⟩ := HG.out
    have B := (Below.refl w.heap.size w).alloc (Nat.le_refl _) (.cells C 5)
    exact ⟨_, G, rfl, ⟨rfl, rfl, .inr ⟨w.heap.size, G, C, rfl, Nat.le_refl _, heap_alloc_new w _, Nat.zero_le _, hGm, hCs, rfl⟩⟩, ⟨B.os, B.tape, B.output, B.size, B.block⟩⟩


/-- A list of slices that was built where it is called. -/
theorem bytes_at {L : List (List UInt8)} {k : Nat} : (L.take k).flatten.length ≤ L.flatten.length := by
  have := congrArg (fun l => (List.flatten l).length) (List.take_append_drop k L)
  simp only [List.flatten_append, List.length_append] at this
  omega

set_option maxHeartbeats 2000000 in
theorem concat_any (v : Value) (n : Nat) (L : List (List UInt8)) (w : World) (hr : Rws w v n L) (hl : Hid (n ≤ 1000000 ∧ L.flatten.length ≤ 100000000)) :
    Calls Tryz.prog 91 #[v] w fun e w' => ∃ ao c, e = .returned (.slice ao L.flatten.length c) ∧ Bs w' w.heap.size (.slice ao L.flatten.length c) L.flatten.length L.flatten ∧ Below w.heap.size w w' := by
  obtain ⟨ao, c, rfl⟩ := hr.shape
  have HR := Lib.hid hr
  have HN := Lib.hid hr.1
  obtain ⟨hn1, hl1⟩ := hl.out
  clear hr
  go_enter Tryz.func91, Tryz.ntmps91
  go_wp2_with fail
  go_loopw [3, 11] (fun nv i wr => ∃ k : Nat, k ≤ n ∧ i = .int .i64 k ∧ nv = .int .i64 (((L.take k).flatten.length : Nat) : Int) ∧ w = wr)
    (fun _ i _ => n - (intOf i).toNat)
  case atStart => exact ⟨0, Nat.zero_le _, rfl, rfl, rfl⟩
  case round =>
    obtain ⟨k, hk, rfl, rfl, rfl⟩ := hrel
    have hle := bytes_at (L := L) (k := k)
    by_cases h1 : k < n
    · have h3 : (k : Int) < (n : Int) := by omega
      obtain ⟨a, p, ap, cp, rfl, hp, hc, hrp, hpm⟩ := HR.out.at h1
      have hT := take_more hp
      have hle3 := bytes_at (L := L) (k := k + 1)
      have hsz2 : (L.take (k + 1)).flatten.length = (L.take k).flatten.length + p.length := by rw [hT]; simp
      clear hp hT hrp
      generalize hmm : (L.take k).flatten.length = m at *
      generalize p.length = q at *
      have h5 : ¬ ((m : Int) + (q : Int)) < 0 := by omega
      go_wp2_with fail
      refine ⟨⟨k + 1, by omega, by simp, ?_, trivial⟩, by simp [intOf]; omega⟩
      rw [hsz2]; congr 1
    · have h3 : ¬ (k : Int) < (n : Int) := by omega
      obtain rfl : k = n := by omega
      have hkL : L.take k = L := List.take_of_length_le (by have := HN.out; omega)
      rw [hkL] at hle ⊢
      have HTL : ∃ T, Hid (T = L.flatten.length) := ⟨_, Lib.hid rfl⟩
      obtain ⟨T, HTL⟩ := HTL
      rw [← HTL.out]
      have HG := grow_any T w (Lib.hid (by have := HTL.out; omega))
      clear hle hkL hk h1
      go_wp2_with fail
      refine HG.mono ?_
      rintro e w1 ⟨ao1, c1, rfl, hown, hb⟩
      have HB := Lib.hid (And.intro hown hb)
      clear hown hb HG
      go_wp2_with fail
      go_loopw [6, 27] (fun v i wr => ∃ j : Nat, j ≤ k ∧ i = .int .i64 j ∧ Hid (∃ ao m c, v = .slice ao m c ∧ Bs wr w.heap.size (.slice ao m c) m (L.take j).flatten ∧ Below w.heap.size w wr))
        (fun _ i _ => k - (intOf i).toNat)
      case atStart => exact ⟨0, Nat.zero_le _, rfl, Lib.hid ⟨_, _, _, rfl, HB.out.1, HB.out.2⟩⟩
      case round =>
        obtain ⟨j, hj, rfl, hrel⟩ := hrel
        obtain ⟨ao2, m, c2, rfl, hown, hbel⟩ := hrel.out
        clear HB hrel
        have hm : m = (L.take j).flatten.length := hown.1
        have hle := bytes_at (L := L) (k := j)
        by_cases h1 : j < k
        · have h3 : (j : Int) < (k : Int) := by omega
          obtain ⟨a, p, ap, cp, rfl, hp, hc, hrp, hpm⟩ := (HR.out.later hbel).at h1
          have hT := take_more hp
          have hle3 := bytes_at (L := L) (k := j + 1)
          have hsz2 : (L.take (j + 1)).flatten.length = (L.take j).flatten.length + p.length := by rw [hT]; simp
          have HT := Lib.hid hT
          have HM : Hid (m + p.length ≤ maxLen) := Lib.hid (by unfold maxLen; omega)
          have HM2 : Hid ((m + p.length) * 1 ≤ 140737488355328) := Lib.hid (by omega)
          have HO := Lib.hid (And.intro hown (And.intro hbel hrp))
          clear hp hT hown hbel hle hle3 hsz2 hm hrp
          obtain ⟨q, hq⟩ : ∃ q, q = p.length := ⟨_, rfl⟩
          rw [← hq] at HM HM2 HO hc hpm
          have HQ := Lib.hid hq
          clear hq
          go_wp2_with (at_builtin; refine wpList_append_bytes rfl _ _ rfl w.heap.size _ m _ rfl HO.out.1 _ q p HQ.out rfl HO.out.2.2 (m + q) rfl HM HM2 HO.out.2.1.size ?_; intro ao4 c4 w4 hown4 hb4)
          refine ⟨⟨j + 1, by omega, by simp, Lib.hid ⟨ao4, _, c4, rfl, ?_, HO.out.2.1.trans hb4⟩⟩, by simp [intOf]; omega⟩
          rw [HT.out]
          simpa using hown4
        · have h3 : ¬ (j : Int) < (k : Int) := by omega
          obtain rfl : j = k := by omega
          have hkL : L.take j = L := List.take_of_length_le (by have := HN.out; omega)
          rw [hkL] at hown hm hle
          go_wp2_with fail
          go_ret
          subst hm
          rw [List.length_flatten] at hown
          exact ⟨ao2, c2, rfl, hown, hbel⟩

/-- bytes.Clone of what can be read, where that is not nothing. -/
theorem clone_any (v : Value) (m : Nat) (l : List UInt8) (w : World) (hr : Reads w v (bv l)) (hm : m = l.length) (hl : Hid (m ≤ 1000000000)) :
    Calls Tryz.prog 86 #[v] w fun e w' => ∃ ao c, e = .returned (.slice ao m c) ∧ Bs w' w.heap.size (.slice ao m c) m l ∧ Below w.heap.size w w' := by
  obtain ⟨ao, c, rfl⟩ : ∃ ao c, v = .slice ao m c := by obtain ⟨ao, c, rfl, _⟩ := hr; exact ⟨ao, c, by rw [bv_length, hm]⟩
  have hl' := hl.out
  have F1 : Hid (m ≤ maxLen) := Lib.hid (by unfold maxLen; omega)
  have F2 : Hid (m * 1 ≤ 140737488355328) := Lib.hid (by omega)
  have q22 : ∀ (w : World) (a : Option Addr) (n c n' c' : Nat), (binOp .eql 24 (.slice a n c) (.slice none n' c')).run Tryz.prog w = .ok (.bool a.isNone) w := fun w a n c n' c' => Lib.run_eql_slice_nil w _ _ a n c n' c' Tryz.underlying24
  have HR := Lib.hid (And.intro hr hm)
  clear hr hm
  cases ao with
  | none =>
    obtain ⟨h1, rfl⟩ : l = [] ∧ c = 0 := by
      obtain ⟨ao', c', e, _, hn, _⟩ := HR.out.1
      simp only [Value.slice.injEq] at e
      have := hn e.1.symm
      exact ⟨by simpa [bv] using this.1, by rw [e.2.2]; exact this.2⟩
    subst h1
    obtain rfl : m = 0 := HR.out.2
    go_enter Tryz.func86, Tryz.ntmps86
    go_wp2_with fail
    go_ret
    exact ⟨none, 0, rfl, ⟨rfl, World.ownsRow_nil _ _ _ _⟩, Below.refl _ _⟩
  | some a =>
    go_enter Tryz.func86, Tryz.ntmps86
    go_wp2_with (at_builtin; refine wpList_append_bytes rfl _ _ rfl w.heap.size _ 0 [] rfl (Bs.empty w w.heap.size (Nat.le_refl _)) _ m l HR.out.2 rfl (HR.out.1.alloc _) m (Nat.zero_add m).symm F1 F2 (by simp) ?_; intro ao5 c5 w5 hown5 hb5)
    go_ret
    exact ⟨ao5, c5, rfl, hown5, ((Below.refl _ w).alloc (Nat.le_refl _) _).trans hb5⟩

end Go.Proofs.YthacjeeafnblmaaGreatDoor
