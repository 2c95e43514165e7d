/- appendNumber, U32. Numbers and types by name. -/
import Derived.Test.YtabmjjicplomlaaBe4
import Derived.Laws.BitsLemmas
namespace Go.Proofs.Ytabmjjicplomlaa
open Go.RowKit Go.Lib

theorem append_number (base : Nat) (v : Value) (m : Nat) (l : List UInt8) (n : Int) (w : World) (hown : Bs w base v m l) (hl : m < 100000000) (hbase : base ≤ w.heap.size) :
    Calls Try.prog 42 #[v, .int .i64 n] w fun e w' => ∃ ao c, e = .returned (.slice ao (m + 4) c) ∧ Bs w' base (.slice ao (m + 4) c) (m + 4) (l ++ be4 n) ∧ Below base w w' := by
  obtain ⟨ao, c, rfl⟩ := hown.shape
  have H1 : Hid (m + 4 ≤ maxLen) := Lib.hid (by unfold maxLen; omega)
  have H2 : Hid ((m + 4) * 1 ≤ 140737488355328) := Lib.hid (by omega)
  have HB := Lib.hid (bv_be4 n)
  clear hl
  go_enter Try.func42, Try.ntmps42
  go_wp2_with (at_builtin; refine wpList_append_bytes rfl (.tmp 5) (.tmp 17) rfl base (.slice ao m c) m l rfl (hown.alloc _) (.slice (some ⟨w.heap.size, 0, none⟩) 4 4) 4 (be4 n) rfl rfl (by rw [HB.out]; exact Reads.lit w _ _ (0, 0) 4 rfl) (m + 4) rfl H1 H2 (by simp; omega) ?_; intro ao' c' w1 hown1 hb1)
  go_ret
  exact ⟨ao', c', rfl, hown1, ((Below.refl base w).alloc hbase _).trans hb1⟩

theorem u32_any (n : Int) (w : World) :
    Calls Try.prog 40 #[.int .i64 n] w fun e w' => ∃ ao c, e = .returned (.slice ao 4 c) ∧ Bs w' w.heap.size (.slice ao 4 c) 4 (be4 n) ∧ Below w.heap.size w w' := by
  go_enter Try.func40, Try.ntmps40
  have H4 : Hid (4 ≤ 140737488355328) := Lib.hid (by decide)
  go_wp2_with (first | (at_make; refine wpList_make_bytes rfl _ _ rfl w.heap.size 4 4 rfl rfl rfl H4 (Nat.le_refl _) ?_; intro w1 hown1 hb1 hs1) | (go_at_call 42; refine (append_number w.heap.size _ 0 [] n _ hown1 (by decide) hb1.size).mono ?_; rintro e w2 ⟨ao, c, rfl, hown2, hb2⟩))
  go_ret
  exact ⟨ao, c, rfl, hown2, hb1.trans hb2⟩

theorem or8 (n y : Int) (h0 : 0 ≤ n) (h1 : n < 1099511627776) (y0 : 0 ≤ y) (y1 : y < 256) : bits .or .i64 (wrap64 (n * 256)) y = n * 256 + y := by
  rw [wrap64_id _ (by omega)]
  have hp : (2 : Int) ^ 62 = 4611686018427387904 := by decide
  exact bits_join .i64 62 (by decide) (fun m _ _ => by rw [IntKind.wrap_i64]; omega) 8 (n * 256) y (by omega) (by simp) (by omega) y0 (by simpa using y1) (by omega)

theorem get_any (v : Value) (m : Nat) (l : List UInt8) (k : Int) (w : World) (hr : Reads w v (bv l)) (hm : m = l.length) (hl : Hid (m ≤ maxLen)) :
    Calls Try.prog 45 #[v, .int .i64 k] w fun e w' => w' = w ∧ ((0 ≤ k ∧ k + 4 ≤ m ∧ e = .returned (.tuple #[.int .i64 (numOf ((l.drop k.toNat).take 4)), .bool true])) ∨ (¬ (0 ≤ k ∧ k + 4 ≤ m) ∧ e = .returned (.tuple #[.int .i64 0, .bool false]))) := by
  subst hm
  have hL := hl.out
  obtain ⟨ao, cap, rfl, hcap, hn, hc⟩ := hr
  rw [bv_length] at hcap ⊢
  have n3 : wrap64 ((l.length : Int) - 4) = (l.length : Int) - 4 := wrap64_id _ (by unfold maxLen at hL; omega)
  by_cases hin : 0 ≤ k ∧ k + 4 ≤ (l.length : Int)
  · obtain ⟨k, rfl⟩ := Int.eq_ofNat_of_zero_le hin.1
    obtain ⟨a, rfl⟩ : ∃ a, ao = some a := by
      cases ao with
      | some a => exact ⟨a, rfl⟩
      | none => have := (hn rfl).1; have : l = [] := by simpa [bv] using this
                subst this; simp at hin; omega
    have hkl : k + 4 ≤ l.length := by omega
    have hcell : ∀ j (x : UInt8), l[j]? = some x → w.cell? (a.add j) = some (.int .u8 (x.toNat : Int)) := fun j x hx => hc a rfl j _ (by simp [bv, hx])
    clear hc hn
    have n1 : ¬ ((k : Int) < 0) := by omega
    have n2 : ¬ ((l.length : Int) - 4 < (k : Int)) := by omega
    have n4 : wrap64 ((k : Int) + 4) = ((k + 4 : Nat) : Int) := by rw [wrap64_id _ (by unfold maxLen at hL; omega)]; omega
    have n5 : ((k + 4 : Nat) : Int) ≤ (cap : Int) := by omega
    have n6 : k ≤ k + 4 := by omega
    have n7 : k + 4 ≤ cap := by omega
    go_enter Try.func45, Try.ntmps45
    go_wp2_with fail
    clear n1 n2 n3 n4 n5 n6 n7 hcap hL hl hin
    go_loopw [6, 24] (fun nv i wr => ∃ j : Nat, j ≤ 4 ∧ i = .int .i64 j ∧ nv = .int .i64 (numOf ((l.drop k).take j)) ∧ w = wr)
      (fun _ i _ => 4 - (intOf i).toNat)
    case atStart => exact ⟨0, by omega, rfl, rfl, rfl⟩
    case round =>
      obtain ⟨j, hj, rfl, rfl, rfl⟩ := hrel
      by_cases hlt : j < 4
      · have hlt3 : (j : Int) < 4 := by omega
        obtain ⟨x, hx⟩ : ∃ x, l[k + j]? = some x := ⟨l[k + j], List.getElem?_eq_getElem (by omega)⟩
        have hc1 := hcell _ _ hx
        have hx256 : x.toNat < 256 := x.toNat_lt
        have hc2 : w.cell? ((a.add k).add j) = some (.int .u8 (x.toNat : Int)) := by rw [Addr.add_add]; exact hc1
        have HX := Lib.hid hx
        clear hx hcell
        go_wp2_with fail
        have hx := HX.out
        have hb := numOf_bound ((l.drop k).take j)
        have hlen : ((l.drop k).take j).length = j := by simp; omega
        have hsn : (l.drop k).take (j + 1) = (l.drop k).take j ++ [x] := by rw [List.take_add_one]; simp [hx]
        have hpow : (256 : Int) ^ j ≤ 16777216 := by
          have : j = 0 ∨ j = 1 ∨ j = 2 ∨ j = 3 := by omega
          rcases this with rfl | rfl | rfl | rfl <;> decide
        rw [hlen] at hb
        refine ⟨⟨j + 1, by omega, by simp, ?_, trivial⟩, by simp [intOf]; omega⟩
        rw [or8 _ _ hb.1 (by omega) (by omega) (by omega), hsn, numOf_snoc]
      · obtain rfl : j = 4 := by omega
        go_wp2_with fail
        go_ret2
        exact ⟨rfl, .inl ⟨by omega, by omega, rfl⟩⟩
  · have HIN := Lib.hid hin
    by_cases n1 : k < 0
    · clear hin n3
      go_enter Try.func45, Try.ntmps45
      go_wp2_with fail
      go_ret2
      first | exact ⟨rfl, .inr ⟨HIN.out, rfl⟩⟩ | exact ⟨rfl, .inr rfl⟩
    · have n2 : (l.length : Int) - 4 < k := by omega
      clear hin
      go_enter Try.func45, Try.ntmps45
      go_wp2_with fail
      go_ret2
      exact ⟨rfl, .inr ⟨by omega, rfl⟩⟩

theorem get_in (v : Value) (m : Nat) (l : List UInt8) (k : Nat) (w : World) (hr : Reads w v (bv l)) (hm : m = l.length) (hl : Hid (m ≤ maxLen)) (hk : k + 4 ≤ m) :
    Calls Try.prog 45 #[v, .int .i64 k] w fun e w' => e = .returned (.tuple #[.int .i64 (numOf ((l.drop k).take 4)), .bool true]) ∧ w' = w := by
  refine (get_any v m l k w hr hm hl).mono ?_
  rintro e w' ⟨rfl, h⟩
  rcases h with ⟨_, _, rfl⟩ | ⟨h, _⟩
  · exact ⟨rfl, rfl⟩
  · exact absurd ⟨by omega, by omega⟩ h

theorem get_out (v : Value) (m : Nat) (l : List UInt8) (k : Int) (w : World) (hr : Reads w v (bv l)) (hm : m = l.length) (hl : Hid (m ≤ maxLen)) (hk : ¬ (0 ≤ k ∧ k + 4 ≤ m)) :
    Calls Try.prog 45 #[v, .int .i64 k] w fun e w' => e = .returned (.tuple #[.int .i64 0, .bool false]) ∧ w' = w := by
  refine (get_any v m l k w hr hm hl).mono ?_
  rintro e w' ⟨rfl, h⟩
  rcases h with ⟨h0, h1, _⟩ | ⟨_, rfl⟩
  · exact absurd ⟨h0, h1⟩ hk
  · exact ⟨rfl, rfl⟩

end Go.Proofs.Ytabmjjicplomlaa
