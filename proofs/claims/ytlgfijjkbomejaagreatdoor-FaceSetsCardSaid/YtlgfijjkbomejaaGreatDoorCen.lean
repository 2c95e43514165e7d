/- Encode of the code. Numbers and types by name. -/
import Derived.Test.YtlgfijjkbomejaaGreatDoorLai
import Derived.Test.YtlgfijjkbomejaaGreatDoorDig
import Derived.Lib.LaidTab
import Derived.Test.YtlgfijjkbomejaaGreatDoorBe4
import Derived.Laws.BitsLemmas
import Derived.Test.YtlgfijjkbomejaaGreatDoorTxt
/- strconv.Itoa at a number from 0 on, where the table of powers lies as the program's text lays it. Numbers and types by name. -/
namespace Go.Proofs.YtlgfijjkbomejaaGreatDoor
open Go.RowKit Go.Lib

/-- The table of powers lies as its initialiser lays it. -/
def Tab (w : World) : Prop := Lib.TabIs Tryz.prog w "internal/strconv.uint64pow10" .u64 Lib.pow10Tab

theorem Tab.later {w w' : World} (h : Tab w) (hg : Grow w w') : Tab w' := by
  unfold Tab Lib.TabIs World.var? at *
  generalize Tryz.prog.globalNamed "internal/strconv.uint64pow10" = og at *
  cases og with
  | none => cases h
  | some g =>
    simp only [Option.bind_some] at h ⊢
    cases hx : w.heap[g]? with
    | none => rw [hx] at h; cases h
    | some o =>
      have hlt : g < w.heap.size := (Array.getElem?_eq_some_iff.1 hx).1
      rw [hg.block g hlt]
      exact h

theorem dec_digs : ∀ n : Nat, Lib.decDigits n = digs n := by
  intro n
  induction n using Nat.strongRecOn with
  | _ n ih =>
    rw [Lib.decDigits, digs]
    by_cases h : n < 10
    · rw [dif_pos h, if_pos h]
    · rw [dif_neg h, if_neg h, ih (n / 10) (by omega)]

theorem itoa_any (n : Nat) (w : World) (hn : n ≤ maxLen) (ht : Tab w) :
    Calls Tryz.prog 48 #[.int .i64 (n : Int)] w fun e w' => e = .returned (.string (txt (digs n))) ∧ Below w.heap.size w w' := by
  unfold maxLen at hn
  refine (Tryz.strconv_Itoa (n : Int) (by omega) (by omega) w ht).mono ?_
  rintro e w' ⟨rfl, k, os, rfl⟩
  refine ⟨?_, rfl, rfl, rfl, ?_, fun j hj => ?_⟩
  · have h0 : ¬ (n : Int) < 0 := by omega
    have e1 : Lib.itoa (n : Int) = digs n := by
      unfold Lib.itoa
      rw [if_neg h0, Int.toNat_natCast, dec_digs]
    rw [e1]
    rfl
  · simp [Go.Sort.grow, World.drewN]
  · rw [Go.Sort.heap_grow_old _ _ (by exact hj)]
    rfl

end Go.Proofs.YtlgfijjkbomejaaGreatDoor

/- appendNumber, U32. Numbers and types by name. -/
namespace Go.Proofs.YtlgfijjkbomejaaGreatDoor
open Go.RowKit Go.Lib

theorem append_number (base : Nat) (v : Value) (m : Nat) (l : List UInt8) (n : Int) (w : World) (hown : Bs w base v m l) (hl : m < 100000000) (hbase : base ≤ w.heap.size) :
    Calls Tryz.prog 97 #[v, .int .i64 n] w fun e w' => ∃ ao c, e = .returned (.slice ao (m + 4) c) ∧ Bs w' base (.slice ao (m + 4) c) (m + 4) (l ++ be4 n) ∧ Below base w w' := by
  obtain ⟨ao, c, rfl⟩ := hown.shape
  have H1 : Hid (m + 4 ≤ maxLen) := Lib.hid (by unfold maxLen; omega)
  have H2 : Hid ((m + 4) * 1 ≤ 140737488355328) := Lib.hid (by omega)
  have HB := Lib.hid (bv_be4 n)
  clear hl
  go_enter Tryz.func97, Tryz.ntmps97
  go_wp2_with (at_builtin; refine wpList_append_bytes rfl (.tmp 5) (.tmp 17) rfl base (.slice ao m c) m l rfl (hown.alloc _) (.slice (some ⟨w.heap.size, 0, none⟩) 4 4) 4 (be4 n) rfl rfl (by rw [HB.out]; exact Reads.lit w _ _ (0, 0) 4 rfl) (m + 4) rfl H1 H2 (by simp; omega) ?_; intro ao' c' w1 hown1 hb1)
  go_ret
  exact ⟨ao', c', rfl, hown1, ((Below.refl base w).alloc hbase _).trans hb1⟩

theorem or8 (n y : Int) (h0 : 0 ≤ n) (h1 : n < 1099511627776) (y0 : 0 ≤ y) (y1 : y < 256) : bits .or .i64 (wrap64 (n * 256)) y = n * 256 + y := by
  rw [wrap64_id _ (by omega)]
  have hp : (2 : Int) ^ 62 = 4611686018427387904 := by decide
  exact bits_join .i64 62 (by decide) (fun m _ _ => by rw [IntKind.wrap_i64]; omega) 8 (n * 256) y (by omega) (by simp) (by omega) y0 (by simpa using y1) (by omega)

theorem get_any (v : Value) (m : Nat) (l : List UInt8) (k : Int) (w : World) (hr : Reads w v (bv l)) (hm : m = l.length) (hl : Hid (m ≤ maxLen)) :
    Calls Tryz.prog 84 #[v, .int .i64 k] w fun e w' => w' = w ∧ ((0 ≤ k ∧ k + 4 ≤ m ∧ e = .returned (.tuple #[.int .i64 (numOf ((l.drop k.toNat).take 4)), .bool true])) ∨ (¬ (0 ≤ k ∧ k + 4 ≤ m) ∧ e = .returned (.tuple #[.int .i64 0, .bool false]))) := by
  subst hm
  have hL := hl.out
  obtain ⟨ao, cap, rfl, hcap, hn, hc⟩ := hr
  rw [bv_length] at hcap ⊢
  have n3 : wrap64 ((l.length : Int) - 4) = (l.length : Int) - 4 := wrap64_id _ (by unfold maxLen at hL; omega)
  by_cases hin : 0 ≤ k ∧ k + 4 ≤ (l.length : Int)
  · obtain ⟨k, rfl⟩ := Int.eq_ofNat_of_zero_le hin.1
    obtain ⟨a, rfl⟩ : ∃ a, ao = some a := by
      cases ao with
      | some a => exact ⟨a, rfl⟩
      | none => have := (hn rfl).1; have : l = [] := by simpa [bv] using this
                subst this; simp at hin; omega
    have hkl : k + 4 ≤ l.length := by omega
    have hcell : ∀ j (x : UInt8), l[j]? = some x → w.cell? (a.add j) = some (.int .u8 (x.toNat : Int)) := fun j x hx => hc a rfl j _ (by simp [bv, hx])
    clear hc hn
    have n1 : ¬ ((k : Int) < 0) := by omega
    have n2 : ¬ ((l.length : Int) - 4 < (k : Int)) := by omega
    have n4 : wrap64 ((k : Int) + 4) = ((k + 4 : Nat) : Int) := by rw [wrap64_id _ (by unfold maxLen at hL; omega)]; omega
    have n5 : ((k + 4 : Nat) : Int) ≤ (cap : Int) := by omega
    have n6 : k ≤ k + 4 := by omega
    have n7 : k + 4 ≤ cap := by omega
    go_enter Tryz.func84, Tryz.ntmps84
    go_wp2_with fail
    clear n1 n2 n3 n4 n5 n6 n7 hcap hL hl hin
    go_loopw [6, 24] (fun nv i wr => ∃ j : Nat, j ≤ 4 ∧ i = .int .i64 j ∧ nv = .int .i64 (numOf ((l.drop k).take j)) ∧ w = wr)
      (fun _ i _ => 4 - (intOf i).toNat)
    case atStart => exact ⟨0, by omega, rfl, rfl, rfl⟩
    case round =>
      obtain ⟨j, hj, rfl, rfl, rfl⟩ := hrel
      by_cases hlt : j < 4
      · have hlt3 : (j : Int) < 4 := by omega
        obtain ⟨x, hx⟩ : ∃ x, l[k + j]? = some x := ⟨l[k + j], List.getElem?_eq_getElem (by omega)⟩
        have hc1 := hcell _ _ hx
        have hx256 : x.toNat < 256 := x.toNat_lt
        have hc2 : w.cell? ((a.add k).add j) = some (.int .u8 (x.toNat : Int)) := by rw [Addr.add_add]; exact hc1
        have HX := Lib.hid hx
        clear hx hcell
        go_wp2_with fail
        have hx := HX.out
        have hb := numOf_bound ((l.drop k).take j)
        have hlen : ((l.drop k).take j).length = j := by simp; omega
        have hsn : (l.drop k).take (j + 1) = (l.drop k).take j ++ [x] := by rw [List.take_add_one]; simp [hx]
        have hpow : (256 : Int) ^ j ≤ 16777216 := by
          have : j = 0 ∨ j = 1 ∨ j = 2 ∨ j = 3 := by omega
          rcases this with rfl | rfl | rfl | rfl <;> decide
        rw [hlen] at hb
        refine ⟨⟨j + 1, by omega, by simp, ?_, trivial⟩, by simp [intOf]; omega⟩
        rw [or8 _ _ hb.1 (by omega) (by omega) (by omega), hsn, numOf_snoc]
      · obtain rfl : j = 4 := by omega
        go_wp2_with fail
        go_ret2
        exact ⟨rfl, .inl ⟨by omega, by omega, rfl⟩⟩
  · have HIN := Lib.hid hin
    by_cases n1 : k < 0
    · clear hin n3
      go_enter Tryz.func84, Tryz.ntmps84
      go_wp2_with fail
      go_ret2
      first | exact ⟨rfl, .inr ⟨HIN.out, rfl⟩⟩ | exact ⟨rfl, .inr rfl⟩
    · have n2 : (l.length : Int) - 4 < k := by omega
      clear hin
      go_enter Tryz.func84, Tryz.ntmps84
      go_wp2_with fail
      go_ret2
      exact ⟨rfl, .inr ⟨by omega, rfl⟩⟩

theorem get_in (v : Value) (m : Nat) (l : List UInt8) (k : Nat) (w : World) (hr : Reads w v (bv l)) (hm : m = l.length) (hl : Hid (m ≤ maxLen)) (hk : k + 4 ≤ m) :
    Calls Tryz.prog 84 #[v, .int .i64 k] w fun e w' => e = .returned (.tuple #[.int .i64 (numOf ((l.drop k).take 4)), .bool true]) ∧ w' = w := by
  refine (get_any v m l k w hr hm hl).mono ?_
  rintro e w' ⟨rfl, h⟩
  rcases h with ⟨_, _, rfl⟩ | ⟨h, _⟩
  · exact ⟨rfl, rfl⟩
  · exact absurd ⟨by omega, by omega⟩ h

theorem get_out (v : Value) (m : Nat) (l : List UInt8) (k : Int) (w : World) (hr : Reads w v (bv l)) (hm : m = l.length) (hl : Hid (m ≤ maxLen)) (hk : ¬ (0 ≤ k ∧ k + 4 ≤ m)) :
    Calls Tryz.prog 84 #[v, .int .i64 k] w fun e w' => e = .returned (.tuple #[.int .i64 0, .bool false]) ∧ w' = w := by
  refine (get_any v m l k w hr hm hl).mono ?_
  rintro e w' ⟨rfl, h⟩
  rcases h with ⟨h0, h1, _⟩ | ⟨_, rfl⟩
  · exact absurd ⟨h0, h1⟩ hk
  · exact ⟨rfl, rfl⟩

end Go.Proofs.YtlgfijjkbomejaaGreatDoor

namespace Go.Proofs.YtlgfijjkbomejaaGreatDoor
open Go.RowKit Go.Lib

theorem encode_any (v : Value) (n : Nat) (L : List ByteArray) (w : World) (hr : Texts w v n L) (hb : bulk L ≤ 1000000) :
    Calls Tryz.prog 51 #[v] w fun e w' => ∃ ao c, e = .returned (.slice ao (enc L).length c) ∧ Bs w' w.heap.size (.slice ao (enc L).length c) (enc L).length (enc L) ∧ Below w.heap.size w w' := by
  obtain ⟨ao, c, rfl⟩ := hr.shape
  have HR := Lib.hid hr
  have hn := hr.1
  have hlen := encs_length L
  have hnb := bulk_length L
  have HL : Hid ((encs L).length ≤ 5000000 ∧ n = L.length ∧ (enc L).length = 4 + (encs L).length ∧ n ≤ 1000000) := Lib.hid ⟨by omega, hn, by simp [enc, be4_length], by omega⟩
  have hn1 : n ≤ 1000000 := HL.out.2.2.2
  clear hr hlen hnb hb hn
  go_enter Tryz.func51, Tryz.ntmps51
  go_wp2_with fail
  go_loopw [3, 11] (fun nv i wr => ∃ k : Nat, k ≤ n ∧ i = .int .i64 k ∧ nv = .int .i64 ((4 + (encs (L.take k)).length : Nat) : Int) ∧ w = wr)
    (fun _ i _ => n - (intOf i).toNat)
  case atStart => exact ⟨0, Nat.zero_le _, rfl, rfl, rfl⟩
  case round =>
    obtain ⟨k, hk, rfl, rfl, rfl⟩ := hrel
    have hle := encs_take_le L k
    have hle2 := HL.out.1
    by_cases h1 : k < n
    · have h3 : (k : Int) < (n : Int) := by omega
      obtain ⟨a, s, rfl, hs, hc, hsz⟩ := HR.out.at h1
      have hT := encs_take hs
      have hle3 := encs_take_le L (k + 1)
      have hsz2 : (encs (L.take (k + 1))).length = (encs (L.take k)).length + 4 + s.size := by rw [hT]; simp [be4_length]; omega
      have HS := Lib.hid hs
      clear hs hT hsz
      generalize hmm : (encs (L.take k)).length = m at *
      go_wp2_with fail
      refine ⟨⟨k + 1, by omega, by simp, ?_, trivial⟩, by simp [intOf]; omega⟩
      rw [hsz2]; congr 1; omega
    · have h3 : ¬ (k : Int) < (n : Int) := by omega
      obtain rfl : k = n := by omega
      have hkL : L.take k = L := List.take_of_length_le (by have := HL.out.2.1; omega)
      rw [hkL] at hle ⊢
      have HM : Hid (4 + (encs L).length ≤ 140737488355328) := Lib.hid (by omega)
      have HC : Hid ((4 + ((encs L).length : Int)) = ((4 + (encs L).length : Nat) : Int)) := Lib.hid (by omega)
      clear hle hkL hk h1
      go_wp2_with (first | (at_make; refine wpList_make_bytes rfl _ _ rfl w.heap.size (4 + (encs L).length) (4 + ((encs L).length : Int)) rfl rfl HC.out HM (Nat.le_refl _) ?_; intro w1 hown1 hb1 hs1) | (go_at_call 97; refine (append_number w.heap.size _ 0 [] k _ hown1 (by decide) hb1.size).mono ?_; rintro e w2 ⟨ao2, c2, rfl, hown2, hb2⟩))
      have HB := Lib.hid (And.intro hown2 (hb1.trans hb2))
      clear hown1 hb1 hs1 hown2 hb2 HM HC
      go_loopw [6, 28] (fun v i wr => ∃ j : Nat, j ≤ k ∧ i = .int .i64 j ∧ Hid (∃ ao m c, v = .slice ao m c ∧ Bs wr w.heap.size (.slice ao m c) m (be4 k ++ encs (L.take j)) ∧ Below w.heap.size w wr))
        (fun _ i _ => k - (intOf i).toNat)
      case atStart => exact ⟨0, Nat.zero_le _, rfl, Lib.hid ⟨_, _, _, rfl, by simpa [encs] using HB.out.1, HB.out.2⟩⟩
      case round =>
        obtain ⟨j, hj, rfl, hrel⟩ := hrel
        obtain ⟨ao2, m, c2, rfl, hown, hbel⟩ := hrel.out
        clear HB hrel
        have hm : m = 4 + (encs (L.take j)).length := by rw [hown.1]; simp [be4_length]
        have hle := encs_take_le L j
        by_cases h1 : j < k
        · have h3 : (j : Int) < (k : Int) := by omega
          obtain ⟨a, s, rfl, hs, hc, hsz⟩ := (HR.out.below hbel).at h1
          have hT := encs_take hs
          have hle3 := encs_take_le L (j + 1)
          have hsz2 : (encs (L.take (j + 1))).length = (encs (L.take j)).length + 4 + s.size := by rw [hT]; simp [be4_length]; omega
          have HT := Lib.hid hT
          have HM : Hid (m + 4 + s.size ≤ maxLen) := Lib.hid (by unfold maxLen; omega)
          have HM2 : Hid (m + 4 + s.size ≤ 140737488355328) := Lib.hid (by omega)
          have hm2 : m < 100000000 := by omega
          have HO := Lib.hid (And.intro hown hbel)
          clear hs hT hsz hown hbel hle hle3 hsz2 hm
          go_wp2_with (first | (go_at_call 97; refine (append_number w.heap.size _ m _ s.size _ HO.out.1 hm2 HO.out.2.size).mono ?_; rintro e w2 ⟨ao3, c3, rfl, hown3, hb3⟩) | (at_builtin; refine wpList_append_text rfl _ _ rfl w.heap.size _ (m + 4) _ rfl hown3 s rfl (m + 4 + s.size) rfl HM HM2 (HO.out.2.trans hb3).size ?_; intro ao4 c4 w4 hown4 hb4))
          refine ⟨⟨j + 1, by omega, by simp, Lib.hid ⟨ao4, _, c4, rfl, ?_, (HO.out.2.trans hb3).trans hb4⟩⟩, by simp [intOf]; omega⟩
          rw [HT.out]
          simpa [List.append_assoc] using hown4
        · have h3 : ¬ (j : Int) < (k : Int) := by omega
          obtain rfl : j = k := by omega
          have hkL : L.take j = L := List.take_of_length_le (by have := HL.out.2.1; omega)
          rw [hkL] at hown hm hle
          go_wp2_with fail
          go_ret
          have hE := HL.out.2.2.1
          have hjl : j = L.length := HL.out.2.1
          rw [← hE] at hm
          subst hm
          refine ⟨ao2, c2, ?_, ?_, hbel⟩
          · simp [hE]
          · show Bs wr _ _ _ (be4 L.length ++ encs L)
            rw [← hjl]
            exact hown

end Go.Proofs.YtlgfijjkbomejaaGreatDoor
