/- Records of batches: plain facts; SameOps in a later world. Numbers and types by name. -/
import Derived.Test.YthcdkggkoanjpaaGreatDoorRop
import Derived.Lib.LaidTab
import Derived.Test.YthcdkggkoanjpaaGreatDoorFrp
import Derived.Test.YthcdkggkoanjpaaGreatDoorFrm
import Derived.Test.YthcdkggkoanjpaaGreatDoorCdc
import Derived.Test.YthcdkggkoanjpaaGreatDoorOpr
import Derived.Laws.BitsLemmas
import Derived.StillTailTactics
namespace Go.Proofs.YthcdkggkoanjpaaGreatDoor
open Go.RowKit Go.Lib
inductive Is where
  | stop
  | op (o : Opm)
  | done
  deriving DecidableEq
def isWhat (k : UInt8) (t : List ByteArray) (n : Nat) : Is :=
  match t with
  | [s] => if k = 100 then .op ⟨true, s, ⟨#[]⟩⟩ else if k = 99 ∧ s = txt (digs n) then .done else .stop
  | [s, u] => if k = 112 then .op ⟨false, s, u⟩ else .stop
  | _ => .stop
def what (p : List UInt8) (n : Nat) : Is :=
  match p with
  | [] => .stop
  | k :: r => match dec r with
    | none => .stop
    | some t => isWhat k t n
def play : List (List UInt8) → Nat → List (List Opm) → List Opm → Nat → List (List Opm) × Nat
  | [], _, done, _, used => (done, used)
  | p :: ps, i, done, now, used =>
    match what p now.length with
    | .stop => (done, used)
    | .op o => play ps (i + 1) done (now ++ [o]) used
    | .done => play ps (i + 1) (done ++ [now]) [] (i + 1)
theorem play_stop {p : List UInt8} {ps : List (List UInt8)} {i : Nat} {done : List (List Opm)} {now : List Opm} {used : Nat} (h : what p now.length = .stop) : play (p :: ps) i done now used = (done, used) := by rw [play, h]
theorem play_op {p : List UInt8} {ps : List (List UInt8)} {i : Nat} {done : List (List Opm)} {now : List Opm} {used : Nat} {o : Opm} (h : what p now.length = .op o) : play (p :: ps) i done now used = play ps (i + 1) done (now ++ [o]) used := by rw [play, h]
theorem play_done {p : List UInt8} {ps : List (List UInt8)} {i : Nat} {done : List (List Opm)} {now : List Opm} {used : Nat} (h : what p now.length = .done) : play (p :: ps) i done now used = play ps (i + 1) (done ++ [now]) [] (i + 1) := by rw [play, h]
theorem what_pay (o : Opm) (n : Nat) (h : bulk [o.key, o.val] ≤ 100000) (hok : okOp o = true) : what (pay o) n = .op o := by
  unfold what pay
  have h1 : bulk [o.key] ≤ 100000 := by simp only [bulk, List.map_cons, List.map_nil, List.sum_cons, List.sum_nil] at *; omega
  obtain ⟨d, k, v⟩ := o
  cases d with
  | true =>
    simp only [if_true]
    rw [dec_enc _ (Nat.le_trans h1 (by decide))]
    have hv : v = ⟨#[]⟩ := by
      simp only [okOp, Bool.true_and, Bool.not_not] at hok
      have : v.toList = [] := by simpa using hok
      rw [ByteArray.toList_eq] at this
      exact Go.WideShapes.bytes_inj (by simpa using this)
    simp [isWhat, hv]
  | false =>
    simp only [Bool.false_eq_true, if_false]
    rw [dec_enc _ (Nat.le_trans h (by decide))]
    simp [isWhat]
theorem what_fin (n : Nat) (hn : n < 1000000000) : what (fin n) n = .done := by
  unfold what fin
  have h : bulk [txt (digs n)] ≤ 100000 := by
    have := digs_length 8 n (by omega)
    have e : (txt (digs n)).size = (digs n).length := by simp [txt, ByteArray.size]
    simp only [bulk, List.map_cons, List.map_nil, List.sum_cons, List.sum_nil]; omega
  simp only
  rw [dec_enc _ (Nat.le_trans h (by decide))]
  simp [isWhat]
theorem play_recs (L : List Opm) (hb : bulkO L ≤ 5000) (hok : okOps L = true) (ps : List (List UInt8)) (i : Nat) (done : List (List Opm)) (used : Nat) :
    play (recs L ++ ps) i done [] used = play ps (i + L.length + 1) (done ++ [L]) [] (i + L.length + 1) := by
  have hall : L.all okOp = true := by unfold okOps at hok; simp only [Bool.and_eq_true] at hok; exact hok.1
  have go : ∀ (M now : List Opm) (i : Nat), (∀ o ∈ M, okOp o = true ∧ bulk [o.key, o.val] ≤ 100000) → play (M.map pay ++ ([fin (now.length + M.length)] ++ ps)) i done now used = play ([fin (now.length + M.length)] ++ ps) (i + M.length) done (now ++ M) used := by
    intro M
    induction M with
    | nil => intro now i _; simp
    | cons o M ih =>
      intro now i h
      rw [List.map_cons, List.cons_append, play_op (what_pay o _ (h o (by simp)).2 (h o (by simp)).1)]
      have := ih (now ++ [o]) (i + 1) (fun o' ho' => h o' (by simp [ho']))
      rw [List.length_append, List.length_singleton, show now.length + 1 + M.length = now.length + (o :: M).length by simp; omega] at this
      rw [this]
      simp only [List.append_assoc, List.singleton_append, List.length_cons]
      rw [show i + 1 + M.length = i + (M.length + 1) by omega]
  have h := go L [] i (fun o ho => by
    refine ⟨by simpa using (List.all_eq_true.1 hall) o ho, ?_⟩
    have := bulkO_mem ho
    simp only [bulk, List.map_cons, List.map_nil, List.sum_cons, List.sum_nil]; omega)
  have hn := bulkO_length L
  unfold recs
  rw [List.append_assoc]
  simp only [List.length_nil, Nat.zero_add, List.nil_append] at h
  rw [h, List.singleton_append, play_done (what_fin _ (by omega))]
end Go.Proofs.YthcdkggkoanjpaaGreatDoor
namespace Go.Proofs.YthcdkggkoanjpaaGreatDoor
open Go.RowKit Go.Lib
def Tab (w : World) : Prop := Lib.TabIs Tryz.prog w "internal/strconv.uint64pow10" .u64 Lib.pow10Tab
theorem Tab.later {w w' : World} (h : Tab w) (hg : Grow w w') : Tab w' := by
  unfold Tab Lib.TabIs World.var? at *
  generalize Tryz.prog.globalNamed "internal/strconv.uint64pow10" = og at *
  cases og with
  | none => cases h
  | some g =>
    simp only [Option.bind_some] at h ⊢
    cases hx : w.heap[g]? with
    | none => rw [hx] at h; cases h
    | some o =>
      have hlt : g < w.heap.size := (Array.getElem?_eq_some_iff.1 hx).1
      rw [hg.block g hlt]
      exact h
theorem dec_digs : ∀ n : Nat, Lib.decDigits n = digs n := by
  intro n
  induction n using Nat.strongRecOn with
  | _ n ih =>
    rw [Lib.decDigits, digs]
    by_cases h : n < 10
    · rw [dif_pos h, if_pos h]
    · rw [dif_neg h, if_neg h, ih (n / 10) (by omega)]
theorem itoa_any (n : Nat) (w : World) (hn : n ≤ maxLen) (ht : Tab w) :
    Calls Tryz.prog 183 #[.int .i64 (n : Int)] w fun e w' => e = .returned (.string (txt (digs n))) ∧ Below w.heap.size w w' := by
  unfold maxLen at hn
  refine (Tryz.strconv_Itoa (n : Int) (by omega) (by omega) w ht).mono ?_
  rintro e w' ⟨rfl, k, os, rfl⟩
  refine ⟨?_, rfl, rfl, rfl, ?_, fun j hj => ?_⟩
  · have h0 : ¬ (n : Int) < 0 := by omega
    have e1 : Lib.itoa (n : Int) = digs n := by
      unfold Lib.itoa
      rw [if_neg h0, Int.toNat_natCast, dec_digs]
    rw [e1]
    rfl
  · simp [Go.Sort.grow, World.drewN]
  · rw [Go.Sort.heap_grow_old _ _ (by exact hj)]
    rfl
end Go.Proofs.YthcdkggkoanjpaaGreatDoor
namespace Go.Proofs.YthcdkggkoanjpaaGreatDoor
open Go.RowKit Go.Lib
theorem count_any (v : Value) (n : Nat) (L : List Opm) (w : World) (hr : Opr w v n L) (ht : Tab w) :
    Calls Tryz.prog 141 #[v] w fun e w' => e = .returned (.string (txt (digs n))) ∧ Below w.heap.size w w' := by
  obtain ⟨ao, c, rfl⟩ := hr.shape
  have G := itoa_any n w hr.2.1 ht
  clear hr
  go_enter Tryz.func141, Tryz.ntmps141
  go_wp2_with fail
  refine G.mono ?_
  rintro e w' ⟨rfl, hb⟩
  go_wp2_with fail
  go_ret
  exact ⟨rfl, hb⟩
theorem payload_any (k : UInt8) (v : Value) (n : Nat) (T : List ByteArray) (w : World) (hr : Texts w v n T) (hb : bulk T ≤ 10000) :
    Calls Tryz.prog 140 #[.int .u8 (k.toNat : Int), v] w fun e w' => ∃ ao m c, e = .returned (.slice ao m c) ∧ Bs w' w.heap.size (.slice ao m c) m (k :: enc T) ∧ Below w.heap.size w w' := by
  obtain ⟨ao, c, rfl⟩ := hr.shape
  have hkl := k.toNat_lt
  have G := encode_any _ n T (w.alloc (.cells #[.int .u8 (k.toNat : Int)] 5)) (hr.later ((Below.refl _ w).alloc (Nat.le_refl _) _)) (Nat.le_trans hb (by decide))
  have HP := Lib.hid (bs_lit w w.heap.size [k] 1 rfl (Nat.le_refl _) (by unfold maxLen; omega))
  have HL : Hid ((enc T).length ≤ 60000) := Lib.hid (by
    have h1 := encs_length T
    have h2 := bulk_length T
    simp only [enc, List.length_append, be4_length]; omega)
  have hW : Hid (Below w.heap.size w (w.alloc (.cells #[.int .u8 (k.toNat : Int)] 5))) := Lib.hid ((Below.refl _ w).alloc (Nat.le_refl _) _)
  clear hr hb
  go_enter Tryz.func140, Tryz.ntmps140
  go_wp2_with fail
  refine G.mono ?_
  rintro e w2 ⟨a2, c2, rfl, h2, hb2⟩
  obtain ⟨q, hq⟩ : ∃ q, q = (enc T).length := ⟨_, rfl⟩
  have HQ := Lib.hid hq
  rw [← hq] at h2 HL ⊢
  have HP2 := Lib.hid (HP.out.below hb2 (Nat.le_refl _))
  have HR2 := Lib.hid h2.reads
  have HB2 := Lib.hid (hW.out.trans (hb2.mono hW.out.size))
  have F1 : Hid (1 + q ≤ maxLen) := Lib.hid (by have := HL.out; unfold maxLen; omega)
  have F2 : Hid ((1 + q) * 1 ≤ 140737488355328) := Lib.hid (by have := HL.out; omega)
  clear G HP hW hb2 h2 hq
  go_wp2_with (at_builtin; refine wpList_append_bytes rfl (.tmp 6) (.tmp 8) rfl w.heap.size _ 1 [k] rfl HP2.out (.slice a2 q c2) q (enc T) HQ.out rfl HR2.out (1 + q) rfl F1 F2 HB2.out.size ?_; intro ao6 c6 w6 hown6 hb6)
  go_ret
  exact ⟨ao6, _, c6, rfl, hown6, HB2.out.trans hb6⟩
theorem operation_any (o : Opm) (w : World) (hb : 1 + o.key.size + o.val.size ≤ 5000) :
    Calls Tryz.prog 139 #[.agg #[.bool o.del, .string o.key, .string o.val]] w fun e w' => ∃ ao m c, e = .returned (.slice ao m c) ∧ Bs w' w.heap.size (.slice ao m c) m (pay o) ∧ Below w.heap.size w w' := by
  obtain ⟨d, k, v⟩ := o
  simp only at hb
  have HB := Lib.hid hb
  clear hb
  have hk : k.size ≤ maxLen := by have := HB.out; unfold maxLen; omega
  have hv : v.size ≤ maxLen := by have := HB.out; unfold maxLen; omega
  cases d with
  | true =>
    go_enter Tryz.func139, Tryz.ntmps139
    go_wp2_with fail
    obtain ⟨X, hX⟩ : ∃ X, X = w.alloc (.cells #[.bool true, .string k, .string v] 65) := ⟨_, rfl⟩
    have hxs : w.heap.size + 1 = X.heap.size := by rw [hX]; simp
    have hw : Hid (Below w.heap.size w X) := Lib.hid (by rw [hX]; exact (Below.refl _ w).alloc (Nat.le_refl _) _)
    rw [← hX, hxs]
    clear hX
    refine (payload_any 100 _ 1 [k] _ (Texts.lit X [k] (0, 0) 1 rfl (by unfold maxLen; omega) (by intro s hs; simp only [List.mem_singleton] at hs; subst hs; exact hk)) (by have := HB.out; simp only [bulk, List.map_cons, List.map_nil, List.sum_cons, List.sum_nil]; omega)).mono ?_
    rintro e w2 ⟨a2, m, c2, rfl, h2, hb2⟩
    have HX := Lib.hid (And.intro h2 hb2)
    clear h2 hb2
    go_wp2_with fail
    go_ret
    have hw2 : Below w.heap.size w (X.alloc (.cells (sv [k]).toArray 9)) := hw.out.alloc hw.out.size _
    exact ⟨a2, m, c2, rfl, HX.out.1.base hw2.size, hw2.trans (HX.out.2.mono hw2.size)⟩
  | false =>
    go_enter Tryz.func139, Tryz.ntmps139
    go_wp2_with fail
    obtain ⟨X, hX⟩ : ∃ X, X = w.alloc (.cells #[.bool false, .string k, .string v] 65) := ⟨_, rfl⟩
    have hxs : w.heap.size + 1 = X.heap.size := by rw [hX]; simp
    have hw : Hid (Below w.heap.size w X) := Lib.hid (by rw [hX]; exact (Below.refl _ w).alloc (Nat.le_refl _) _)
    rw [← hX, hxs]
    clear hX
    refine (payload_any 112 _ 2 [k, v] _ (Texts.lit X [k, v] (0, 0) 2 rfl (by unfold maxLen; omega) (by intro s hs; simp only [List.mem_cons, List.not_mem_nil, or_false] at hs; rcases hs with rfl | rfl <;> assumption)) (by have := HB.out; simp only [bulk, List.map_cons, List.map_nil, List.sum_cons, List.sum_nil]; omega)).mono ?_
    rintro e w2 ⟨a2, m, c2, rfl, h2, hb2⟩
    have HX := Lib.hid (And.intro h2 hb2)
    clear h2 hb2
    go_wp2_with fail
    go_ret
    have hw2 : Below w.heap.size w (X.alloc (.cells (sv [k, v]).toArray 9)) := hw.out.alloc hw.out.size _
    exact ⟨a2, m, c2, rfl, HX.out.1.base hw2.size, hw2.trans (HX.out.2.mono hw2.size)⟩
def PartsDone (l : List UInt8) (w : World) (e : Ending) (w' : World) : Prop :=
  Below w.heap.size w w' ∧ ∃ (k : UInt8) (T : List ByteArray) (n : Nat) (ao : Option Addr) (c : Nat), e = .returned (.tuple #[.int .u8 (k.toNat : Int), .slice ao n c]) ∧ Texts w' (.slice ao n c) n T ∧ ∀ j, what l j = isWhat k T j
theorem what_none' {p : List UInt8} (n : Nat) (h : p = [] ∨ ∃ k r, p = k :: r ∧ dec r = none) : what p n = .stop := by
  rcases h with rfl | ⟨k, r, rfl, h⟩
  · rfl
  · unfold what; simp [h]
theorem what_some' {p : List UInt8} {k : UInt8} {r : List UInt8} {t : List ByteArray} (n : Nat) (h : p = k :: r) (ht : dec r = some t) : what p n = isWhat k t n := by
  subst h; unfold what; simp [ht]
theorem parts_any (v : Value) (m : Nat) (l : List UInt8) (w : World) (hr : Reads w v (bv l)) (hm : m = l.length) (hl : m ≤ maxLen) :
    Calls Tryz.prog 158 #[v] w (PartsDone l w) := by
  obtain ⟨ao, c, rfl⟩ : ∃ ao c, v = .slice ao m c := by obtain ⟨ao, c, rfl, _⟩ := hr; exact ⟨ao, c, by rw [bv_length, hm]⟩
  cases l with
  | nil =>
    obtain rfl : m = 0 := hm
    clear hr hl
    go_enter Tryz.func158, Tryz.ntmps158
    go_wp2_with fail
    go_ret2
    exact ⟨Below.refl _ _, 0, [], 0, none, 0, rfl, ⟨rfl, Reads.nil _, Nat.zero_le _, fun s h => by cases h⟩, fun j => rfl⟩
  | cons x r =>
    obtain ⟨q, hq⟩ : ∃ q, q = r.length + 1 := ⟨_, rfl⟩
    have hpl2 : (x :: r).length = q := by rw [hq]; rfl
    obtain rfl : m = q := by rw [hm, hpl2]
    have hq0 : ¬ (m : Int) = 0 := by omega
    have hq1 : (1 : Int) ≤ (m : Int) := by omega
    obtain ⟨b, rfl⟩ : ∃ b, ao = some b := by
      obtain ⟨ao', c', e, _, hn0, _⟩ := hr
      cases ao with
      | some b => exact ⟨b, rfl⟩
      | none =>
        simp only [Value.slice.injEq] at e
        have := (hn0 e.1.symm).1
        simp [bv] at this
    have hqc : m ≤ c := by
      obtain ⟨_, _, e, h0, _⟩ := hr
      simp only [Value.slice.injEq, bv_length] at e h0
      rw [hpl2] at h0
      omega
    have hx : w.cell? b = some (.int .u8 (x.toNat : Int)) := by
      obtain ⟨y1, y2, y3, y4, y5⟩ := hr.byte (k := 0) (by omega)
      simp only [Option.some.injEq] at y3
      subst y3
      simp only [List.getElem?_cons_zero, Option.some.injEq] at y4
      subst y4
      simpa [Addr.add] using y5
    obtain ⟨bz, hbz, jz⟩ : ∃ bz, (if c = 1 then some b else some { block := b.block, off := b.off + 1 }) = some bz ∧ (bz = b.add 1 ∨ (x :: r).length = 1) := by
      by_cases h : c = 1
      · exact ⟨b, by rw [if_pos h], .inr (by omega)⟩
      · exact ⟨_, by rw [if_neg h], .inl (by simp [Addr.add])⟩
    have hrd1 : Reads w (.slice (some bz) (m - 1) (c - 1)) (bv r) := hr.drop 1 (by omega) bz jz
    have HQ := Lib.hid hq
    have G := decode_anyL _ (m - 1) r w hrd1 (by omega) (Lib.hid (by unfold maxLen at hl ⊢; omega))
    have hx256 := x.toNat_lt
    clear hr hrd1 jz hpl2 hq hm
    unfold maxLen at hl
    go_enter Tryz.func158, Tryz.ntmps158
    go_wp2_with fail
    refine G.mono ?_
    rintro e w2 ⟨hb2, ⟨T, at_, ct, hT, rfl, hTx⟩ | ⟨hT, rfl⟩⟩
    · have hx2 := grow_cell hb2 hx
      have HX := Lib.hid (And.intro hT (And.intro hTx hb2))
      obtain ⟨tn, htn⟩ : ∃ tn, tn = T.length := ⟨_, rfl⟩
      rw [← htn] at hTx ⊢
      have HT := Lib.hid hTx
      clear hT hTx hb2 hx htn G hbz
      go_wp2_with fail
      go_ret2
      exact ⟨HX.out.2.2, x, T, tn, at_, ct, rfl, HT.out, fun j => what_some' j rfl HX.out.1⟩
    · have hx2 := grow_cell hb2 hx
      have HX := Lib.hid (And.intro hT hb2)
      clear hT hb2 hx G hbz
      go_wp2_with fail
      go_ret2
      exact ⟨HX.out.2, x, [], 0, none, 0, rfl, ⟨rfl, Reads.nil _, Nat.zero_le _, fun s h => by cases h⟩, fun j => what_none' j (.inr ⟨x, r, rfl, HX.out.1⟩)⟩
end Go.Proofs.YthcdkggkoanjpaaGreatDoor
namespace Go.Proofs.YthcdkggkoanjpaaGreatDoor
open Go.RowKit Go.Lib
theorem right_any (v : Value) (n : Nat) (L : List Opm) (w : World) (hr : Opr w v n L) :
    Calls Tryz.prog 138 #[v] w fun e w' => e = .returned (.bool (okOps L)) ∧ Below w.heap.size w w' := by
  obtain ⟨ao, c, rfl⟩ := hr.shape
  have HR := Lib.hid hr
  have hm := hr.2.1
  unfold maxLen at hm
  clear hr
  by_cases hbig : 1000 < n
  · have h3 : (1000 : Int) < (n : Int) := by omega
    have HS : Hid (okOps L = false) := Lib.hid (by
      have := HR.out.1
      unfold okOps
      rw [decide_eq_false (by omega), Bool.and_false])
    go_enter Tryz.func138, Tryz.ntmps138
    go_wp2_with fail
    go_ret
    rw [HS.out]
    exact ⟨rfl, Below.refl _ _⟩
  have h3 : ¬ (1000 : Int) < (n : Int) := by omega
  go_enter Tryz.func138, Tryz.ntmps138
  go_wp2_with fail
  go_loopw [10] (fun i wr => ∃ k : Nat, k ≤ n ∧ i = .int .i64 k ∧ Hid ((L.take k).all okOp = true ∧ Below w.heap.size w wr))
    (fun i _ => n - (RowKit.intOf i).toNat)
  case atStart => exact ⟨0, Nat.zero_le _, rfl, Lib.hid ⟨by simp, Below.refl _ _⟩⟩
  case round =>
    obtain ⟨k, hk, rfl, hrel⟩ := hrel
    by_cases hlt : k < n
    · have h4 : (k : Int) < (n : Int) := by omega
      obtain ⟨a, o, rfl, ho, c0, c1, c2, s1, s2⟩ := (HR.out.later hrel.out.2).at hlt
      have HO := Lib.hid ho
      clear ho
      have step : (L.take (k + 1)).all okOp = okOp o := by rw [take_next HO.out, List.all_append, hrel.out.1]; simp
      have HB : Hid (∀ ob, Below w.heap.size w (wr.alloc ob)) := Lib.hid fun ob => hrel.out.2.alloc hrel.out.2.size _
      cases hd : o.del with
      | false =>
        rw [hd] at c0
        have HS : Hid ((L.take (k + 1)).all okOp = true) := Lib.hid (by rw [step]; simp [okOp, hd])
        clear step hd
        go_wp2_with fail
        exact ⟨⟨k + 1, by omega, by simp, Lib.hid ⟨HS.out, HB.out _⟩⟩, by simp [RowKit.intOf]; omega⟩
      | true =>
        rw [hd] at c0
        cases hv : o.val.toList.isEmpty with
        | true =>
          have HS : Hid ((L.take (k + 1)).all okOp = true) := Lib.hid (by rw [step]; simp [okOp, hv])
          clear step hd
          go_wp2_with fail
          exact ⟨⟨k + 1, by omega, by simp, Lib.hid ⟨HS.out, HB.out _⟩⟩, by simp [RowKit.intOf]; omega⟩
        | false =>
          have HS : Hid (okOps L = false) := Lib.hid (by
            have e : L = L.take (k + 1) ++ L.drop (k + 1) := (List.take_append_drop _ _).symm
            have e2 : L.all okOp = false := by
              rw [e, List.all_append, step]
              simp [okOp, hv, hd]
            simp [okOps, e2])
          clear step hd
          go_wp2_with fail
          go_ret
          rw [HS.out]
          exact ⟨rfl, HB.out _⟩
    · have h4 : ¬ (k : Int) < (n : Int) := by omega
      obtain rfl : k = n := by omega
      have hk2 : L.take k = L := List.take_of_length_le (by have := HR.out.1; omega)
      have e : okOps L = true := by
        have h1 := hrel.out.1
        have h2 := HR.out.1
        rw [hk2] at h1
        unfold okOps
        rw [h1, Bool.true_and]
        simp only [decide_eq_true_eq]
        omega
      have HE := Lib.hid e
      clear hk2 e
      go_wp2_with fail
      go_ret
      rw [HE.out]
      exact ⟨rfl, hrel.out.2⟩
end Go.Proofs.YthcdkggkoanjpaaGreatDoor
namespace Go.Proofs.YthcdkggkoanjpaaGreatDoor
open Go.RowKit Go.Lib
theorem batch_bad (v : Value) (n : Nat) (L : List Opm) (w : World) (hr : Opr w v n L) (hok : okOps L = false) :
    Calls Tryz.prog 97 #[v] w fun e w' => e = .returned (.tuple #[.slice none 0 0, .int .i64 1]) ∧ Below w.heap.size w w' := by
  have R := right_any _ n L w hr
  rw [hok] at R
  clear hr hok
  go_enter Tryz.func97, Tryz.ntmps97
  go_wp2_with fail
  refine R.mono ?_
  rintro e w1 ⟨rfl, hb⟩
  clear R
  go_wp2_with fail
  go_ret2
  exact ⟨rfl, hb⟩
set_option maxHeartbeats 2000000 in
theorem batch_any (v : Value) (n : Nat) (L : List Opm) (w : World) (hr : Opr w v n L) (ht : Tab w) (hok : okOps L = true) (hb : bulkO L ≤ 5000) :
    Calls Tryz.prog 97 #[v] w fun e w' => ∃ ao m c, e = .returned (.tuple #[.slice ao m c, .int .i64 0]) ∧ Bs w' w.heap.size (.slice ao m c) m (frms (recs L)) ∧ Below w.heap.size w w' := by
  obtain ⟨ao, c, rfl⟩ := hr.shape
  have HR := Lib.hid hr
  have HT := Lib.hid ht
  have HB := Lib.hid hb
  have hn5 : n ≤ 5000 := by have := bulkO_length L; have := hr.1; omega
  have R := right_any _ n L w hr
  rw [hok] at R
  clear hr hok hb ht
  go_enter Tryz.func97, Tryz.ntmps97
  go_wp2_with fail
  refine R.mono ?_
  rintro e w1 ⟨rfl, hb1⟩
  clear R
  have HB1 := Lib.hid hb1
  clear hb1
  go_wp2_with fail
  go_loopw [4, 16] (fun xv i wr => ∃ (k r c : Nat) (ao : Option Addr), k ≤ n ∧ i = .int .i64 k ∧ xv = .slice ao r c ∧ Hid (r ≤ 110000 ∧ Bs wr w.heap.size (.slice ao r c) r (frms ((L.take k).map pay)) ∧ Below w.heap.size w wr))
    (fun _ i _ => n - (RowKit.intOf i).toNat)
  case atStart => exact ⟨0, 0, 0, none, Nat.zero_le _, rfl, rfl, Lib.hid ⟨by omega, ⟨rfl, World.ownsRow_nil _ _ _ _⟩, HB1.out⟩⟩
  case round =>
    obtain ⟨k, r, c, ao2, hk, rfl, rfl, hrel⟩ := hrel
    have HA := Lib.hid hrel.out.2.1
    have HBE := Lib.hid hrel.out.2.2
    have hrb := hrel.out.1
    clear hrel
    by_cases hlt : k < n
    · have h3 : (k : Int) < (n : Int) := by omega
      obtain ⟨a, o, rfl, ho, q0, q1, q2, s1, s2⟩ := (HR.out.later HBE.out).at hlt
      have HO := Lib.hid ho
      have hob := bulkO_mem (List.mem_of_getElem? ho)
      have HOB : Hid (1 + o.key.size + o.val.size ≤ 5000) := Lib.hid (by have := HB.out; omega)
      have G := fun w => operation_any o w HOB.out
      have HG : Hid (Grow wr (wr.alloc (.cells #[.bool o.del, .string o.key, .string o.val] 65))) := Lib.hid ((Below.refl _ wr).alloc (Nat.le_refl _) _)
      clear ho s1 s2 hob
      go_wp2_with fail
      refine (G _).mono ?_
      rintro e w2 ⟨a2, m2, c2, rfl, h2, hb2⟩
      have hm2 : m2 ≤ 6000 := by have := h2.1; have := pay_length o; have := HOB.out; omega
      have HX := Lib.hid (And.intro h2 (Grow.trans HG.out hb2))
      clear h2 hb2 G HG q0 q1 q2
      go_wp2_with fail
      refine (frame_any _ m2 (pay o) w2 HX.out.1.reads HX.out.1.1 (by omega)).mono ?_
      rintro e w3 ⟨a3, c3, rfl, h3', hb3⟩
      obtain ⟨s, hs⟩ : ∃ s, s = m2 + 8 := ⟨_, rfl⟩
      rw [← hs] at h3' ⊢
      have hs6 : s ≤ 6008 := by omega
      have HY := Lib.hid (And.intro h3' (Grow.trans HX.out.2 hb3))
      have HAY := Lib.hid (HA.out.below HY.out.2 (Nat.le_refl _))
      have HBY := Lib.hid (HBE.out.trans (HY.out.2.mono HBE.out.size))
      have F1 : Hid (r + s ≤ maxLen) := Lib.hid (by unfold maxLen; omega)
      have F2 : Hid ((r + s) * 1 ≤ 140737488355328) := Lib.hid (by omega)
      clear h3' hb3 hs HX
      go_wp2_with (at_builtin; refine wpList_append_bytes rfl (.tmp 29) (.tmp 30) rfl w.heap.size _ r _ rfl HAY.out (.slice a3 s c3) s (frm (pay o)) HY.out.1.1 rfl HY.out.1.reads (r + s) rfl F1 F2 HBY.out.size ?_; intro ao8 c8 w8 hown8 hb8)
      have hN : frms ((L.take k).map pay) ++ frm (pay o) = frms ((L.take (k + 1)).map pay) := (pays_take HO.out).symm
      rw [hN] at hown8
      refine ⟨⟨k + 1, r + s, c8, ao8, by omega, by simp, rfl, Lib.hid ⟨?_, hown8, HBY.out.trans hb8⟩⟩, by simp only [RowKit.intOf]; omega⟩
      have h1 := pays_bulk (L.take (k + 1))
      have h2 := bulkO_take L (k + 1)
      have h4 := HB.out
      have h5 := hown8.1
      omega
    · have h3 : ¬ (k : Int) < (n : Int) := by omega
      obtain rfl : k = n := by omega
      have hkL : L.take k = L := List.take_of_length_le (by have := HR.out.1; omega)
      have hlen : Hid (L.length = k) := Lib.hid HR.out.1.symm
      rw [hkL] at HA
      have C := count_any _ k L wr (HR.out.later HBE.out) (HT.out.later HBE.out)
      clear hkL
      go_wp2_with fail
      refine C.mono ?_
      rintro e w2 ⟨rfl, hb2⟩
      have HX2 : Hid (Grow wr w2) := Lib.hid hb2
      clear hb2 C
      go_wp2_with fail
      have hfl := fin_length (n := k) (by omega)
      have hsz : (txt (digs k)).size ≤ 18 := by unfold fin at hfl; rw [List.length_cons, enc1_length] at hfl; omega
      refine (payload_any 99 _ 1 [txt (digs k)] _ (Texts.lit w2 [txt (digs k)] (0, 0) 1 rfl (by unfold maxLen; omega) (by intro s hs; simp only [List.mem_singleton] at hs; subst hs; unfold maxLen; omega)) (by simp only [bulk, List.map_cons, List.map_nil, List.sum_cons, List.sum_nil]; omega)).mono ?_
      rintro e w3 ⟨a3, m3, c3, rfl, h3', hb3⟩
      have hm3 : m3 ≤ 18 := by have := h3'.1; unfold fin at hfl; omega
      have HX3 := Lib.hid (And.intro h3' (Grow.trans HX2.out (Grow.trans ((Below.refl _ w2).alloc (Nat.le_refl _) (.cells (sv [txt (digs k)]).toArray 9)) hb3)))
      clear h3' hb3 HX2 hfl hsz
      go_wp2_with fail
      have hfe : (99 : UInt8) :: enc [txt (digs k)] = fin k := rfl
      rw [hfe] at HX3
      refine (frame_any _ m3 (fin k) w3 HX3.out.1.reads HX3.out.1.1 (by omega)).mono ?_
      rintro e w4 ⟨a4, c4, rfl, h4', hb4⟩
      obtain ⟨s, hs⟩ : ∃ s, s = m3 + 8 := ⟨_, rfl⟩
      rw [← hs] at h4' ⊢
      have hs6 : s ≤ 6008 := by omega
      have HY := Lib.hid (And.intro h4' (Grow.trans HX3.out.2 hb4))
      have HAY := Lib.hid (HA.out.below HY.out.2 (Nat.le_refl _))
      have HBY := Lib.hid (HBE.out.trans (HY.out.2.mono HBE.out.size))
      have F1 : Hid (r + s ≤ maxLen) := Lib.hid (by unfold maxLen; omega)
      have F2 : Hid ((r + s) * 1 ≤ 140737488355328) := Lib.hid (by omega)
      clear h4' hb4 hs HX3 hfe
      go_wp2_with (at_builtin; refine wpList_append_bytes rfl (.tmp 41) (.tmp 42) rfl w.heap.size _ r _ rfl HAY.out (.slice a4 s c4) s (frm (fin k)) HY.out.1.1 rfl HY.out.1.reads (r + s) rfl F1 F2 HBY.out.size ?_; intro ao8 c8 w8 hown8 hb8)
      go_ret2
      have hN : frms (L.map pay) ++ frm (fin k) = frms (recs L) := by rw [recs, frms_snoc, hlen.out]
      rw [hN] at hown8
      exact ⟨ao8, r + s, c8, by simp, hown8, HBY.out.trans hb8⟩
end Go.Proofs.YthcdkggkoanjpaaGreatDoor
namespace Go.Proofs.YthcdkggkoanjpaaGreatDoor
open Go.RowKit Go.Lib
theorem bulk_scans' {b : List UInt8} {l : List (List UInt8)} {n : Nat} (h : Scans b l n) : 8 * l.length ≤ n := by
  induction h with
  | stop _ => simp
  | more _ _ ih => rw [List.length_cons]; omega
theorem recs_short {L : List Opm} (hb : bulkO L ≤ 5000) : ∀ p ∈ recs L, p.length ≤ 6000 := by
  intro p hp
  have hn := bulkO_length L
  rcases List.mem_append.1 hp with hp | hp
  · obtain ⟨o, ho, rfl⟩ := List.mem_map.1 hp
    have := pay_length o
    have := bulkO_mem ho
    omega
  · rw [List.mem_singleton.1 hp]
    have := fin_length (n := L.length) (by omega)
    omega
theorem recs_frms {L : List Opm} (hb : bulkO L ≤ 5000) : (frms (recs L)).length ≤ 110000 := by
  have h1 := pays_bulk L
  have hn := bulkO_length L
  have h2 := fin_length (n := L.length) (by omega)
  unfold recs
  rw [frms_snoc, List.length_append, frm_length]
  omega
theorem recs_pos (L : List Opm) : 8 ≤ (frms (recs L)).length := by
  unfold recs
  rw [frms_snoc, List.length_append, frm_length]
  omega
theorem frms_append (l m : List (List UInt8)) : frms (l ++ m) = frms l ++ frms m := by simp [frms]
end Go.Proofs.YthcdkggkoanjpaaGreatDoor
