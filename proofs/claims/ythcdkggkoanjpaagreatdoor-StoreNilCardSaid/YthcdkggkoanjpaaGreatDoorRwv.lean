/- Lists of lists of bytes: append of a whole one; records of a list. Numbers and types by name. -/
import Derived.Test.YthcdkggkoanjpaaGreatDoorPrl
import Derived.Sort.Walk0
import Derived.StillTailTactics
import Derived.Laws.BitsLemmas
import Derived.Test.YthcdkggkoanjpaaGreatDoorPrf
import Derived.Test.YthcdkggkoanjpaaGreatDoorPlk
import Derived.Test.YthcdkggkoanjpaaGreatDoorBe4
import Derived.Test.YthcdkggkoanjpaaGreatDoorTxt
/- The reference's Table: pairs as bytes. Numbers and types by name. -/
namespace Go.Proofs.YthcdkggkoanjpaaGreatDoor
open Go.RowKit Go.Lib Go.Sort
def flatP (L : List Prm) : List ByteArray := L.flatMap fun o => [o.key, o.val]
def bulkP (L : List Prm) : Nat := (L.map fun o => 1 + o.key.size + o.val.size).sum
theorem bulkP_cons (o : Prm) (L : List Prm) : bulkP (o :: L) = 1 + o.key.size + o.val.size + bulkP L := by simp [bulkP]
theorem flatP_bulk (L : List Prm) : bulk (flatP L) ≤ 2 * bulkP L := by
  induction L with
  | nil => simp [flatP, bulk, bulkP]
  | cons o L ih =>
    have e : flatP (o :: L) = [o.key, o.val] ++ flatP L := by simp [flatP]
    rw [e, bulk_append, bulkP_cons]
    simp only [bulk, List.map_cons, List.map_nil, List.sum_cons, List.sum_nil]
    simp only [bulk] at ih
    omega
theorem flatP_length (L : List Prm) : (flatP L).length = L.length * 2 := by
  induction L with
  | nil => rfl
  | cons o L ih =>
    have e : flatP (o :: L) = [o.key, o.val] ++ flatP L := by simp [flatP]
    rw [e, List.length_append, ih]; simp; omega
theorem flatP_next {L : List Prm} {k : Nat} {x : Prm} (h : L[k]? = some x) : flatP (L.take (k + 1)) = flatP (L.take k) ++ [x.key, x.val] := by
  rw [take_next h]; simp [flatP]
theorem flatP_mem {L : List Prm} {s : ByteArray} (h : s ∈ flatP L) : ∃ o ∈ L, s = o.key ∨ s = o.val := by
  obtain ⟨o, ho, hs⟩ := List.mem_flatMap.1 h
  exact ⟨o, ho, by simpa using hs⟩
def Slim (L : List Prm) : Prop := bulkP L ≤ 500000 ∧ (enc (flatP L)).length ≤ 900000
theorem bulkP_len (L : List Prm) : L.length ≤ bulkP L := by
  induction L with
  | nil => simp
  | cons o L ih => rw [bulkP_cons, List.length_cons]; omega
theorem slim_of {L : List Prm} (h : bulkP L ≤ 20000) : Slim L := by
  have h1 := enc_length (flatP L)
  have h2 := flatP_bulk L
  have h3 := flatP_length L
  have h4 := bulkP_len L
  exact ⟨by omega, by omega⟩
end Go.Proofs.YthcdkggkoanjpaaGreatDoor

/- Pairs as bytes: plain facts. Numbers and types by name. -/
namespace Go.Proofs.YthcdkggkoanjpaaGreatDoor
open Go.RowKit Go.Lib Go.Sort
def pairUp : List ByteArray → List Prm
  | k :: v :: r => ⟨k, v⟩ :: pairUp r
  | _ => []
theorem pairUp_flat (L : List Prm) : pairUp (flatP L) = L := by
  induction L with
  | nil => rfl
  | cons o L ih =>
    have e : flatP (o :: L) = o.key :: o.val :: flatP L := by simp [flatP]
    rw [e, pairUp, ih]
theorem pairUp_length : ∀ (n : Nat) (t : List ByteArray), t.length = 2 * n → (pairUp t).length = n
  | 0, [], _ => rfl
  | 0, _ :: _, h => by simp at h
  | n + 1, [], h => by simp at h
  | n + 1, [_], h => by simp at h; omega
  | n + 1, k :: v :: r, h => by
    have := pairUp_length n r (by simp at h; omega)
    simp [pairUp, this]
theorem pairUp_at : ∀ (i : Nat) (t : List ByteArray) (k v : ByteArray), t[2 * i]? = some k → t[2 * i + 1]? = some v → (pairUp t)[i]? = some ⟨k, v⟩
  | 0, [], _, _, h, _ => by cases h
  | 0, [a], _, _, _, h => by cases h
  | 0, a :: b :: r, k, v, h1, h2 => by
    simp at h1 h2
    subst h1 h2
    rfl
  | i + 1, [], _, _, h, _ => by cases h
  | i + 1, [a], _, _, h, _ => by simp [show 2 * (i + 1) = 2 * i + 1 + 1 by omega] at h
  | i + 1, a :: b :: r, k, v, h1, h2 => by
    rw [show 2 * (i + 1) = 2 * i + 1 + 1 by omega] at h1 h2
    simp only [List.getElem?_cons_succ] at h1 h2
    rw [pairUp, List.getElem?_cons_succ]
    exact pairUp_at i r k v h1 h2
theorem pairUp_mem {t : List ByteArray} {o : Prm} (h : o ∈ pairUp t) : o.key ∈ t ∧ o.val ∈ t := by
  induction t using pairUp.induct with
  | case1 k v r ih =>
    rw [pairUp] at h
    rcases List.mem_cons.1 h with rfl | h
    · simp
    · have := ih h
      exact ⟨by simp [this.1], by simp [this.2]⟩
  | case2 t hne =>
    have : pairUp t = [] := by unfold pairUp; split <;> simp_all
    rw [this] at h
    cases h
def unP (b : List UInt8) : Option (List Prm) :=
  match one? b with
  | some (p, []) => match dec p with
    | some t => if t.length % 2 = 0 ∧ Rise (pairUp t) then some (pairUp t) else none
    | none => none
  | _ => none
theorem one_size {b p r : List UInt8} (h : one? b = some (p, r)) : b.length = 8 + p.length + r.length := by
  by_cases h8 : 8 ≤ b.length
  · obtain ⟨q, hq⟩ : ∃ q : Nat, numOf ((b.drop 0).take 4) = q := ⟨_, (Int.toNat_of_nonneg (numOf_bound _).1).symm⟩
    obtain ⟨s, hs⟩ : ∃ s : Nat, numOf ((b.drop (0 + 4)).take 4) = s := ⟨_, (Int.toNat_of_nonneg (numOf_bound _).1).symm⟩
    have h1 := one_drop (b := b) (k := 0) (by omega) q s hq hs
    rw [List.drop_zero] at h1
    rw [h1] at h
    split at h
    · rename_i hc
      simp only [Option.some.injEq, Prod.mk.injEq] at h
      obtain ⟨rfl, rfl⟩ := h
      simp only [List.length_take, List.length_drop]
      omega
    · cases h
  · have h1 := one_short (b := b) (k := 0) (by omega)
    rw [List.drop_zero] at h1
    rw [h1] at h
    cases h
theorem scan_one {b p : List UInt8} {n : Nat} (h : Scans b [p] n) (hn : n = b.length) : one? b = some (p, []) := by
  cases h with
  | more h1 h2 =>
    cases h2 with
    | stop h3 =>
      rename_i r
      have h4 := one_size h1
      have : r = [] := List.eq_nil_of_length_eq_zero (by omega)
      rw [h1, this]
theorem scan_not {b : List UInt8} {l : List (List UInt8)} {n : Nat} (h : Scans b l n) (hn : ¬ (l.length = 1 ∧ n = b.length)) : unP b = none := by
  unfold unP
  split
  · rename_i p h1
    exfalso
    have h2 : Scans b [p] (8 + p.length + 0) := .more h1 (.stop rfl)
    obtain ⟨rfl, e⟩ := scans_det h h2
    have := one_size h1
    exact hn ⟨rfl, by simp at this; omega⟩
  · rfl
theorem unP_of {b p : List UInt8} (h : one? b = some (p, [])) : unP b = match dec p with
    | some t => if t.length % 2 = 0 ∧ Rise (pairUp t) then some (pairUp t) else none
    | none => none := by
  unfold unP
  rw [h]
theorem unP_frmS {L : List Prm} (hR : Rise L) (hb : Slim L) : unP (frm (enc (flatP L))) = some L := by
  have h1 : bulk (flatP L) ≤ 2000000 := by have := flatP_bulk L; have := hb.1; omega
  have h2 : (enc (flatP L)).length ≤ 1048576 := by have := hb.2; omega
  have h3 := one_frm (enc (flatP L)) [] h2
  rw [List.append_nil] at h3
  rw [unP_of h3, dec_enc _ h1]
  simp only
  rw [pairUp_flat, if_pos ⟨by rw [flatP_length]; omega, hR⟩]
theorem num_size {b r : List UInt8} {n : Nat} (h : num? b = some (n, r)) : r.length + 4 = b.length := by
  unfold num? at h
  split at h
  · simp only [Option.some.injEq, Prod.mk.injEq] at h
    obtain ⟨_, rfl⟩ := h
    simp only [List.length_drop]; omega
  · cases h
theorem texts_size : ∀ (k : Nat) (b : List UInt8) (L : List ByteArray) (q : List UInt8), texts? k b = some (L, q) → 4 * L.length + q.length ≤ b.length
  | 0, b, L, q, h => by
    simp only [texts?, Option.some.injEq, Prod.mk.injEq] at h
    obtain ⟨rfl, rfl⟩ := h
    simp
  | k + 1, b, L, q, h => by
    rw [texts?] at h
    cases ht : text? b with
    | none => rw [ht] at h; cases h
    | some x =>
      obtain ⟨t, r⟩ := x
      rw [ht] at h
      simp only at h
      have hr : r.length + 4 ≤ b.length := by
        unfold text? at ht
        cases hn : num? b with
        | none => rw [hn] at ht; cases ht
        | some y =>
          obtain ⟨n, r'⟩ := y
          have h1 := num_size hn
          rw [hn] at ht
          simp only at ht
          split at ht
          · simp only [Option.some.injEq, Prod.mk.injEq] at ht
            obtain ⟨_, rfl⟩ := ht
            simp only [List.length_drop]; omega
          · cases ht
      cases hk : texts? k r with
      | none => rw [hk] at h; cases h
      | some z =>
        obtain ⟨L', q'⟩ := z
        rw [hk] at h
        simp only [Option.some.injEq, Prod.mk.injEq] at h
        obtain ⟨rfl, rfl⟩ := h
        have := texts_size k r L' q' hk
        simp only [List.length_cons]; omega
theorem dec_length_le {b : List UInt8} {L : List ByteArray} (h : dec b = some L) : L.length ≤ b.length := by
  unfold dec list? at h
  cases hn : num? b with
  | none => rw [hn] at h; cases h
  | some y =>
    obtain ⟨n, r⟩ := y
    have h1 := num_size hn
    rw [hn] at h
    simp only at h
    cases hk : texts? n r with
    | none => rw [hk] at h; cases h
    | some z =>
      obtain ⟨L', q'⟩ := z
      rw [hk] at h
      have h2 := texts_size n r L' q' hk
      cases q' with
      | nil =>
        simp only [Option.some.injEq] at h
        subst h
        omega
      | cons x q => cases h
theorem bulkPQ (L : List Prm) : bulkP L = bulkQ L := rfl
theorem bulkP_base (L : List Prm) : bulkP (baseP L) ≤ bulkP L := by rw [bulkPQ, bulkPQ]; exact bulkQ_base L
theorem bulkP_length (L : List Prm) : L.length ≤ bulkP L := by
  induction L with
  | nil => simp
  | cons o L ih => rw [bulkP_cons, List.length_cons]; omega
end Go.Proofs.YthcdkggkoanjpaaGreatDoor

/- The reference's FromTable: bytes as pairs. Numbers and types by name. -/
namespace Go.Proofs.YthcdkggkoanjpaaGreatDoor
open Go.RowKit Go.Lib Go.Sort
theorem pv_one (o : Prm) : ∀ u ∈ pv o, u.oneCell' = true := by
  intro u hu
  simp only [pv, List.mem_cons, List.not_mem_nil, or_false] at hu
  rcases hu with rfl | rfl <;> rfl
def FromDone (b : List UInt8) (w : World) (e : Ending) (w' : World) : Prop :=
  Below w.heap.size w w' ∧ ((∃ L ao q c, unP b = some L ∧ e = .returned (.tuple #[.slice ao q c, .int .i64 0]) ∧ Prr w' (.slice ao q c) q L ∧ ∀ a, (Value.slice ao q c).ownBlock = some a → w.heap.size ≤ a) ∨
    (unP b = none ∧ e = .returned (.tuple #[.slice none 0 0, .int .i64 2])))
theorem OwnP.prr {w : World} {base : Nat} {v : Value} {L : List Prm} (h : OwnP w base v L) (hn : L.length ≤ maxLen) (hs : ∀ o ∈ L, o.key.size ≤ maxLen ∧ o.val.size ≤ maxLen) : Prr w v L.length L := by
  exact ⟨rfl, hn, Cells.own (show w.ownsRow base 90 2 v L.length (pvs L) from h) (by decide), hs⟩
theorem pairNext {T : List ByteArray} {k : Nat} {o : Prm} (h : (pairUp T)[k]? = some o) : (pairUp T).take (k + 1) = (pairUp T).take k ++ [o] := take_next h
theorem pvs_snoc (L : List Prm) (o : Prm) : pvs (L ++ [o]) = pvs L ++ pv o := by simp [pvs]
end Go.Proofs.YthcdkggkoanjpaaGreatDoor

/- appendNumber, U32. Numbers and types by name. -/
namespace Go.Proofs.YthcdkggkoanjpaaGreatDoor
open Go.RowKit Go.Lib
theorem append_number (base : Nat) (v : Value) (m : Nat) (l : List UInt8) (n : Int) (w : World) (hown : Bs w base v m l) (hl : m < 100000000) (hbase : base ≤ w.heap.size) :
    Calls Tryz.prog 168 #[v, .int .i64 n] w fun e w' => ∃ ao c, e = .returned (.slice ao (m + 4) c) ∧ Bs w' base (.slice ao (m + 4) c) (m + 4) (l ++ be4 n) ∧ Below base w w' := by
  obtain ⟨ao, c, rfl⟩ := hown.shape
  have H1 : Hid (m + 4 ≤ maxLen) := Lib.hid (by unfold maxLen; omega)
  have H2 : Hid ((m + 4) * 1 ≤ 140737488355328) := Lib.hid (by omega)
  have HB := Lib.hid (bv_be4 n)
  clear hl
  go_enter Tryz.func168, Tryz.ntmps168
  go_wp2_with (at_builtin; refine wpList_append_bytes rfl (.tmp 5) (.tmp 17) rfl base (.slice ao m c) m l rfl (hown.alloc _) (.slice (some ⟨w.heap.size, 0, none⟩) 4 4) 4 (be4 n) rfl rfl (by rw [HB.out]; exact Reads.lit w _ _ (0, 0) 4 rfl) (m + 4) rfl H1 H2 (by simp; omega) ?_; intro ao' c' w1 hown1 hb1)
  go_ret
  exact ⟨ao', c', rfl, hown1, ((Below.refl base w).alloc hbase _).trans hb1⟩
theorem u32_any (n : Int) (w : World) :
    Calls Tryz.prog 167 #[.int .i64 n] w fun e w' => ∃ ao c, e = .returned (.slice ao 4 c) ∧ Bs w' w.heap.size (.slice ao 4 c) 4 (be4 n) ∧ Below w.heap.size w w' := by
  go_enter Tryz.func167, Tryz.ntmps167
  have H4 : Hid (4 ≤ 140737488355328) := Lib.hid (by decide)
  go_wp2_with (first | (at_make; refine wpList_make_bytes rfl _ _ rfl w.heap.size 4 4 rfl rfl rfl H4 (Nat.le_refl _) ?_; intro w1 hown1 hb1 hs1) | (go_at_call 168; refine (append_number w.heap.size _ 0 [] n _ hown1 (by decide) hb1.size).mono ?_; rintro e w2 ⟨ao, c, rfl, hown2, hb2⟩))
  go_ret
  exact ⟨ao, c, rfl, hown2, hb1.trans hb2⟩
theorem or8 (n y : Int) (h0 : 0 ≤ n) (h1 : n < 1099511627776) (y0 : 0 ≤ y) (y1 : y < 256) : bits .or .i64 (wrap64 (n * 256)) y = n * 256 + y := by
  rw [wrap64_id _ (by omega)]
  have hp : (2 : Int) ^ 62 = 4611686018427387904 := by decide
  exact bits_join .i64 62 (by decide) (fun m _ _ => by rw [IntKind.wrap_i64]; omega) 8 (n * 256) y (by omega) (by simp) (by omega) y0 (by simpa using y1) (by omega)
theorem get_any (v : Value) (m : Nat) (l : List UInt8) (k : Int) (w : World) (hr : Reads w v (bv l)) (hm : m = l.length) (hl : Hid (m ≤ maxLen)) :
    Calls Tryz.prog 154 #[v, .int .i64 k] w fun e w' => w' = w ∧ ((0 ≤ k ∧ k + 4 ≤ m ∧ e = .returned (.tuple #[.int .i64 (numOf ((l.drop k.toNat).take 4)), .bool true])) ∨ (¬ (0 ≤ k ∧ k + 4 ≤ m) ∧ e = .returned (.tuple #[.int .i64 0, .bool false]))) := by
  subst hm
  have hL := hl.out
  obtain ⟨ao, cap, rfl, hcap, hn, hc⟩ := hr
  rw [bv_length] at hcap ⊢
  have n3 : wrap64 ((l.length : Int) - 4) = (l.length : Int) - 4 := wrap64_id _ (by unfold maxLen at hL; omega)
  by_cases hin : 0 ≤ k ∧ k + 4 ≤ (l.length : Int)
  · obtain ⟨k, rfl⟩ := Int.eq_ofNat_of_zero_le hin.1
    obtain ⟨a, rfl⟩ : ∃ a, ao = some a := by
      cases ao with
      | some a => exact ⟨a, rfl⟩
      | none => have := (hn rfl).1; have : l = [] := by simpa [bv] using this
                subst this; simp at hin; omega
    have hkl : k + 4 ≤ l.length := by omega
    have hcell : ∀ j (x : UInt8), l[j]? = some x → w.cell? (a.add j) = some (.int .u8 (x.toNat : Int)) := fun j x hx => hc a rfl j _ (by simp [bv, hx])
    clear hc hn
    have n1 : ¬ ((k : Int) < 0) := by omega
    have n2 : ¬ ((l.length : Int) - 4 < (k : Int)) := by omega
    have n4 : wrap64 ((k : Int) + 4) = ((k + 4 : Nat) : Int) := by rw [wrap64_id _ (by unfold maxLen at hL; omega)]; omega
    have n5 : ((k + 4 : Nat) : Int) ≤ (cap : Int) := by omega
    have n6 : k ≤ k + 4 := by omega
    have n7 : k + 4 ≤ cap := by omega
    go_enter Tryz.func154, Tryz.ntmps154
    go_wp2_with fail
    clear n1 n2 n3 n4 n5 n6 n7 hcap hL hl hin
    go_loopw [6, 24] (fun nv i wr => ∃ j : Nat, j ≤ 4 ∧ i = .int .i64 j ∧ nv = .int .i64 (numOf ((l.drop k).take j)) ∧ w = wr)
      (fun _ i _ => 4 - (intOf i).toNat)
    case atStart => exact ⟨0, by omega, rfl, rfl, rfl⟩
    case round =>
      obtain ⟨j, hj, rfl, rfl, rfl⟩ := hrel
      by_cases hlt : j < 4
      · have hlt3 : (j : Int) < 4 := by omega
        obtain ⟨x, hx⟩ : ∃ x, l[k + j]? = some x := ⟨l[k + j], List.getElem?_eq_getElem (by omega)⟩
        have hc1 := hcell _ _ hx
        have hx256 : x.toNat < 256 := x.toNat_lt
        have hc2 : w.cell? ((a.add k).add j) = some (.int .u8 (x.toNat : Int)) := by rw [Addr.add_add]; exact hc1
        have HX := Lib.hid hx
        clear hx hcell
        go_wp2_with fail
        have hx := HX.out
        have hb := numOf_bound ((l.drop k).take j)
        have hlen : ((l.drop k).take j).length = j := by simp; omega
        have hsn : (l.drop k).take (j + 1) = (l.drop k).take j ++ [x] := by rw [List.take_add_one]; simp [hx]
        have hpow : (256 : Int) ^ j ≤ 16777216 := by
          have : j = 0 ∨ j = 1 ∨ j = 2 ∨ j = 3 := by omega
          rcases this with rfl | rfl | rfl | rfl <;> decide
        rw [hlen] at hb
        refine ⟨⟨j + 1, by omega, by simp, ?_, trivial⟩, by simp [intOf]; omega⟩
        rw [or8 _ _ hb.1 (by omega) (by omega) (by omega), hsn, numOf_snoc]
      · obtain rfl : j = 4 := by omega
        go_wp2_with fail
        go_ret2
        exact ⟨rfl, .inl ⟨by omega, by omega, rfl⟩⟩
  · have HIN := Lib.hid hin
    by_cases n1 : k < 0
    · clear hin n3
      go_enter Tryz.func154, Tryz.ntmps154
      go_wp2_with fail
      go_ret2
      first | exact ⟨rfl, .inr ⟨HIN.out, rfl⟩⟩ | exact ⟨rfl, .inr rfl⟩
    · have n2 : (l.length : Int) - 4 < k := by omega
      clear hin
      go_enter Tryz.func154, Tryz.ntmps154
      go_wp2_with fail
      go_ret2
      exact ⟨rfl, .inr ⟨by omega, rfl⟩⟩
theorem get_in (v : Value) (m : Nat) (l : List UInt8) (k : Nat) (w : World) (hr : Reads w v (bv l)) (hm : m = l.length) (hl : Hid (m ≤ maxLen)) (hk : k + 4 ≤ m) :
    Calls Tryz.prog 154 #[v, .int .i64 k] w fun e w' => e = .returned (.tuple #[.int .i64 (numOf ((l.drop k).take 4)), .bool true]) ∧ w' = w := by
  refine (get_any v m l k w hr hm hl).mono ?_
  rintro e w' ⟨rfl, h⟩
  rcases h with ⟨_, _, rfl⟩ | ⟨h, _⟩
  · exact ⟨rfl, rfl⟩
  · exact absurd ⟨by omega, by omega⟩ h
theorem get_out (v : Value) (m : Nat) (l : List UInt8) (k : Int) (w : World) (hr : Reads w v (bv l)) (hm : m = l.length) (hl : Hid (m ≤ maxLen)) (hk : ¬ (0 ≤ k ∧ k + 4 ≤ m)) :
    Calls Tryz.prog 154 #[v, .int .i64 k] w fun e w' => e = .returned (.tuple #[.int .i64 0, .bool false]) ∧ w' = w := by
  refine (get_any v m l k w hr hm hl).mono ?_
  rintro e w' ⟨rfl, h⟩
  rcases h with ⟨h0, h1, _⟩ | ⟨_, rfl⟩
  · exact absurd ⟨h0, h1⟩ hk
  · exact ⟨rfl, rfl⟩
end Go.Proofs.YthcdkggkoanjpaaGreatDoor

/- Encode of the code. Numbers and types by name. -/
namespace Go.Proofs.YthcdkggkoanjpaaGreatDoor
open Go.RowKit Go.Lib
theorem encode_any (v : Value) (n : Nat) (L : List ByteArray) (w : World) (hr : Texts w v n L) (hb : bulk L ≤ 1000000) :
    Calls Tryz.prog 128 #[v] w fun e w' => ∃ ao c, e = .returned (.slice ao (enc L).length c) ∧ Bs w' w.heap.size (.slice ao (enc L).length c) (enc L).length (enc L) ∧ Below w.heap.size w w' := by
  obtain ⟨ao, c, rfl⟩ := hr.shape
  have HR := Lib.hid hr
  have hn := hr.1
  have hlen := encs_length L
  have hnb := bulk_length L
  have HL : Hid ((encs L).length ≤ 5000000 ∧ n = L.length ∧ (enc L).length = 4 + (encs L).length ∧ n ≤ 1000000) := Lib.hid ⟨by omega, hn, by simp [enc, be4_length], by omega⟩
  have hn1 : n ≤ 1000000 := HL.out.2.2.2
  clear hr hlen hnb hb hn
  go_enter Tryz.func128, Tryz.ntmps128
  go_wp2_with fail
  go_loopw [3, 11] (fun nv i wr => ∃ k : Nat, k ≤ n ∧ i = .int .i64 k ∧ nv = .int .i64 ((4 + (encs (L.take k)).length : Nat) : Int) ∧ w = wr)
    (fun _ i _ => n - (intOf i).toNat)
  case atStart => exact ⟨0, Nat.zero_le _, rfl, rfl, rfl⟩
  case round =>
    obtain ⟨k, hk, rfl, rfl, rfl⟩ := hrel
    have hle := encs_take_le L k
    have hle2 := HL.out.1
    by_cases h1 : k < n
    · have h3 : (k : Int) < (n : Int) := by omega
      obtain ⟨a, s, rfl, hs, hc, hsz⟩ := HR.out.at h1
      have hT := encs_take hs
      have hle3 := encs_take_le L (k + 1)
      have hsz2 : (encs (L.take (k + 1))).length = (encs (L.take k)).length + 4 + s.size := by rw [hT]; simp [be4_length]; omega
      have HS := Lib.hid hs
      clear hs hT hsz
      generalize hmm : (encs (L.take k)).length = m at *
      go_wp2_with fail
      refine ⟨⟨k + 1, by omega, by simp, ?_, trivial⟩, by simp [intOf]; omega⟩
      rw [hsz2]; congr 1; omega
    · have h3 : ¬ (k : Int) < (n : Int) := by omega
      obtain rfl : k = n := by omega
      have hkL : L.take k = L := List.take_of_length_le (by have := HL.out.2.1; omega)
      rw [hkL] at hle ⊢
      have HM : Hid (4 + (encs L).length ≤ 140737488355328) := Lib.hid (by omega)
      have HC : Hid ((4 + ((encs L).length : Int)) = ((4 + (encs L).length : Nat) : Int)) := Lib.hid (by omega)
      clear hle hkL hk h1
      go_wp2_with (first | (at_make; refine wpList_make_bytes rfl _ _ rfl w.heap.size (4 + (encs L).length) (4 + ((encs L).length : Int)) rfl rfl HC.out HM (Nat.le_refl _) ?_; intro w1 hown1 hb1 hs1) | (go_at_call 168; refine (append_number w.heap.size _ 0 [] k _ hown1 (by decide) hb1.size).mono ?_; rintro e w2 ⟨ao2, c2, rfl, hown2, hb2⟩))
      have HB := Lib.hid (And.intro hown2 (hb1.trans hb2))
      clear hown1 hb1 hs1 hown2 hb2 HM HC
      go_loopw [6, 28] (fun v i wr => ∃ j : Nat, j ≤ k ∧ i = .int .i64 j ∧ Hid (∃ ao m c, v = .slice ao m c ∧ Bs wr w.heap.size (.slice ao m c) m (be4 k ++ encs (L.take j)) ∧ Below w.heap.size w wr))
        (fun _ i _ => k - (intOf i).toNat)
      case atStart => exact ⟨0, Nat.zero_le _, rfl, Lib.hid ⟨_, _, _, rfl, by simpa [encs] using HB.out.1, HB.out.2⟩⟩
      case round =>
        obtain ⟨j, hj, rfl, hrel⟩ := hrel
        obtain ⟨ao2, m, c2, rfl, hown, hbel⟩ := hrel.out
        clear HB hrel
        have hm : m = 4 + (encs (L.take j)).length := by rw [hown.1]; simp [be4_length]
        have hle := encs_take_le L j
        by_cases h1 : j < k
        · have h3 : (j : Int) < (k : Int) := by omega
          obtain ⟨a, s, rfl, hs, hc, hsz⟩ := (HR.out.below hbel).at h1
          have hT := encs_take hs
          have hle3 := encs_take_le L (j + 1)
          have hsz2 : (encs (L.take (j + 1))).length = (encs (L.take j)).length + 4 + s.size := by rw [hT]; simp [be4_length]; omega
          have HT := Lib.hid hT
          have HM : Hid (m + 4 + s.size ≤ maxLen) := Lib.hid (by unfold maxLen; omega)
          have HM2 : Hid (m + 4 + s.size ≤ 140737488355328) := Lib.hid (by omega)
          have hm2 : m < 100000000 := by omega
          have HO := Lib.hid (And.intro hown hbel)
          clear hs hT hsz hown hbel hle hle3 hsz2 hm
          go_wp2_with (first | (go_at_call 168; refine (append_number w.heap.size _ m _ s.size _ HO.out.1 hm2 HO.out.2.size).mono ?_; rintro e w2 ⟨ao3, c3, rfl, hown3, hb3⟩) | (at_builtin; refine wpList_append_text rfl _ _ rfl w.heap.size _ (m + 4) _ rfl hown3 s rfl (m + 4 + s.size) rfl HM HM2 (HO.out.2.trans hb3).size ?_; intro ao4 c4 w4 hown4 hb4))
          refine ⟨⟨j + 1, by omega, by simp, Lib.hid ⟨ao4, _, c4, rfl, ?_, (HO.out.2.trans hb3).trans hb4⟩⟩, by simp [intOf]; omega⟩
          rw [HT.out]
          simpa [List.append_assoc] using hown4
        · have h3 : ¬ (j : Int) < (k : Int) := by omega
          obtain rfl : j = k := by omega
          have hkL : L.take j = L := List.take_of_length_le (by have := HL.out.2.1; omega)
          rw [hkL] at hown hm hle
          go_wp2_with fail
          go_ret
          have hE := HL.out.2.2.1
          have hjl : j = L.length := HL.out.2.1
          rw [← hE] at hm
          subst hm
          refine ⟨ao2, c2, ?_, ?_, hbel⟩
          · simp [hE]
          · show Bs wr _ _ _ (be4 L.length ++ encs L)
            rw [← hjl]
            exact hown
end Go.Proofs.YthcdkggkoanjpaaGreatDoor

namespace Go.Proofs.YthcdkggkoanjpaaGreatDoor
open Go.RowKit Go.Lib
def Vals (w : World) (vs : List Value) (ps : List (List UInt8)) : Prop :=
  vs.length = ps.length ∧ ∀ (j : Nat) (p : List UInt8), ps[j]? = some p → ∃ ao c, vs[j]? = some (Value.slice ao p.length c) ∧ Reads w (.slice ao p.length c) (bv p) ∧ p.length ≤ maxLen
theorem Rws.of_vals {w : World} {v : Value} {n : Nat} {vs : List Value} {ps : List (List UInt8)} (h : Reads w v vs) (hl : vs.length = n) (k : Vals w vs ps) (hm : n ≤ maxLen) : Rws w v n ps :=
  ⟨by rw [← hl, k.1], hm, vs, h, hl, k.2⟩
theorem frms_snoc (l : List (List UInt8)) (p : List UInt8) : frms (l ++ [p]) = frms l ++ frm p := by simp [frms]
end Go.Proofs.YthcdkggkoanjpaaGreatDoor
