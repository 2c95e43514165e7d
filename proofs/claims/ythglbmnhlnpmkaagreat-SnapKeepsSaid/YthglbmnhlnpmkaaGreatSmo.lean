/- More and Sum. Numbers and types by name. -/
import Derived.Test.YthglbmnhlnpmkaaGreatTmp
import Derived.Test.YthglbmnhlnpmkaaGreatPfr
import Derived.Test.YthglbmnhlnpmkaaGreatBe4
import Derived.Laws.BitsLemmas
import Derived.Test.YthglbmnhlnpmkaaGreatCel
import Derived.Test.YthglbmnhlnpmkaaGreatRsm
/- Tables of the code: Apply. Numbers and types by name. -/
namespace Go.Proofs.YthglbmnhlnpmkaaGreat
open Go.RowKit Go.Lib Go.Sort

/-- What Apply leaves. -/
def Applied (L : List Prm) (O : List Opm) (w : World) (e : Ending) (w' : World) : Prop :=
  ∃ ao q c, e = .returned (.slice ao q c) ∧ Prr w' (.slice ao q c) q (applyP L O) ∧ Below w.heap.size w w'

theorem base_sets (L : List Prm) (O : List Opm) : applyP [] (setsOf L ++ O) = applyP L O := by
  unfold applyP baseP
  rw [List.foldl_append]
  congr 1
  unfold setsOf
  rw [List.foldl_map]
  rfl
theorem mem_ops {z : Prm} {O : List Opm} {l : List Prm} (h : z ∈ O.foldl stepP l) : z ∈ l ∨ ∃ o ∈ O, z = ⟨o.key, o.val⟩ := by
  induction O generalizing l with
  | nil => exact .inl h
  | cons o O ih =>
    rcases ih h with h | ⟨o', ho', e⟩
    · unfold stepP at h
      split at h
      · exact .inl ((List.mem_filter.1 h).1)
      · rcases mem_put h with rfl | h
        · exact .inr ⟨o, by simp, rfl⟩
        · exact .inl h
    · exact .inr ⟨o', by simp [ho'], e⟩
theorem apply_sizes {L : List Prm} {O : List Opm} (hL : ∀ o ∈ L, o.key.size ≤ maxLen ∧ o.val.size ≤ maxLen) (hO : ∀ o ∈ O, o.key.size ≤ maxLen ∧ o.val.size ≤ maxLen) : ∀ z ∈ applyP L O, z.key.size ≤ maxLen ∧ z.val.size ≤ maxLen := by
  intro z hz
  rcases mem_ops hz with h | ⟨o, ho, rfl⟩
  · exact hL z (mem_base h)
  · exact hO o ho
theorem apply_lasts {L : List Prm} {O K : List Opm} (h : ∀ k d, lastO K k d = lastO O k d) : applyP L K = applyP L O :=
  ext_rise (rise_apply L K) (rise_apply L O) fun k => by rw [look_apply, look_apply, h]

theorem pvs_one (A : List Prm) : ∀ u ∈ pvs A, u.oneCell' = true := by
  intro u hu
  obtain ⟨o, _, ho⟩ := List.mem_flatMap.1 hu
  exact pv_one o u ho
theorem pvs_app (A B : List Prm) : pvs (A ++ B) = pvs A ++ pvs B := by simp [pvs]
/-- Cells of pairs that begin a list, or end it. -/
theorem Prr.take {w : World} {ao : Option Addr} {n c j : Nat} {L : List Prm} (h : Prr w (.slice ao n c) n L) (hj : j ≤ n) : Cells w (.slice ao j c) 2 j (pvs (L.take j)) := by
  obtain ⟨h1, _, ⟨ao', c', e, h0, hnc, hn, hc⟩, _⟩ := h
  simp only [Value.slice.injEq] at e
  obtain ⟨rfl, _, rfl⟩ := e
  refine ⟨ao, c, rfl, by rw [pvs_length, List.length_take]; omega, by omega, fun e => by have := hn e; omega, fun a ha i u hu => hc a ha i u ?_⟩
  have e : pvs L = pvs (L.take j) ++ pvs (L.drop j) := by rw [← pvs_app, List.take_append_drop]
  rw [e, List.getElem?_append_left (List.getElem?_eq_some_iff.1 hu).1]
  exact hu
theorem Prr.drop {w : World} {ao : Option Addr} {n c j : Nat} {L : List Prm} (h : Prr w (.slice ao n c) n L) (hj : j ≤ n) : ∃ ao', (∀ a, ao = some a → ao' = (if c = j then some a else some (a.add (j * 2)))) ∧ (ao = none → ao' = none) ∧ Prr w (.slice ao' (n - j) (c - j)) (n - j) (L.drop j) := by
  obtain ⟨h1, h2, ⟨ao0, c0, e, h0, hnc, hn, hc⟩, h4⟩ := h
  simp only [Value.slice.injEq] at e
  obtain ⟨rfl, _, rfl⟩ := e
  have h4' : ∀ o ∈ L.drop j, o.key.size ≤ maxLen ∧ o.val.size ≤ maxLen := fun o ho => h4 o (List.mem_of_mem_drop ho)
  cases ao with
  | none =>
    obtain ⟨rfl, rfl⟩ := hn rfl
    exact ⟨none, fun a h => (by cases h), fun _ => rfl, by simp; omega, by omega, ⟨none, 0 - j, rfl, by rw [pvs_length]; simp; omega, by omega, fun _ => ⟨by omega, by omega⟩, fun a h => (by cases h)⟩, h4'⟩
  | some a =>
    refine ⟨if c = j then some a else some (a.add (j * 2)), fun b hb => (by cases hb; rfl), fun h => (by cases h), by rw [List.length_drop]; omega, by omega, ⟨_, c - j, rfl, by rw [pvs_length, List.length_drop]; omega, by omega, fun h => (by split at h <;> cases h), fun b hb i u hu => ?_⟩, h4'⟩
    have hlt := (List.getElem?_eq_some_iff.1 hu).1
    rw [pvs_length, List.length_drop] at hlt
    rw [if_neg (by omega)] at hb
    cases hb
    rw [Addr.add_add]
    refine hc a rfl (j * 2 + i) u ?_
    have e : pvs L = pvs (L.take j) ++ pvs (L.drop j) := by rw [← pvs_app, List.take_append_drop]
    have el : (pvs (L.take j)).length = j * 2 := by rw [pvs_length, List.length_take]; omega
    rw [e, List.getElem?_append_right (by omega), el, Nat.add_sub_cancel_left]
    exact hu

theorem Opr.own {w : World} {base : Nat} {v : Value} {n : Nat} {L : List Opm} (h : w.ownsRow base 90 3 v n (ovs L)) (hn : n = L.length) (hm : n ≤ maxLen) (hs : ∀ o ∈ L, o.key.size ≤ maxLen ∧ o.val.size ≤ maxLen) : Opr w v n L := ⟨hn, hm, Cells.own h (by decide), hs⟩
theorem sets_sizes {L : List Prm} (h : ∀ o ∈ L, o.key.size ≤ maxLen ∧ o.val.size ≤ maxLen) : ∀ o ∈ setsOf L, o.key.size ≤ maxLen ∧ o.val.size ≤ maxLen := by
  intro o ho
  obtain ⟨p, hp, rfl⟩ := List.mem_map.1 ho
  exact h p hp
theorem lops_two {w : World} {v1 v2 : Value} {n m : Nat} {A B : List Opm} (fr : Nat × Nat) (t : TypeId) (h1 : Opr w v1 n A) (h2 : Opr w v2 m B) : Lops (w.alloc (.cells #[v1, v2] t fr)) (.slice (some ⟨w.heap.size, 0, none⟩) 2 2) 2 [A, B] := by
  have hg : Grow w (w.alloc (.cells #[v1, v2] t fr)) := (Below.refl w.heap.size w).alloc (Nat.le_refl _) _
  refine ⟨rfl, [v1, v2], Reads.lit w [v1, v2] t fr 2 rfl, rfl, fun k u hu => ?_⟩
  match k, hu with
  | 0, hu => simp at hu; subst hu; exact ⟨n, A, rfl, h1.later hg⟩
  | 1, hu => simp at hu; subst hu; exact ⟨m, B, rfl, h2.later hg⟩

/-- An append to the pairs' row leaves the ops' row, and a box, as they were. -/
theorem app_keep {W w6 : World} {base bx ra q : Nat} {va vk : Value} {xs ys : List Value} {cs : Array Value} (hown : W.ownsRow base 56 2 va ra xs) (hk : W.ownsRow base 90 3 vk q ys) (hbx : W.heap[bx]? = some (.cells cs 90 (0, 0)))
    (hg : W.grownBy w6 va.ownBlock) : w6.ownsRow base 90 3 vk q ys ∧ w6.heap[bx]? = some (.cells cs 90 (0, 0)) := by
  refine ⟨owns_grown hk hg (fun g h1 h2 => owns_apart hk hown (by decide) g h1 h2), ?_⟩
  rw [hg.block bx (Array.getElem?_eq_some_iff.1 hbx).1 ?_]
  · exact hbx
  · intro e
    rcases hown.2 with ⟨rfl, _⟩ | ⟨g, cap, cur, rfl, _, hgp, _⟩
    · cases e
    · have : g = bx := (Option.some.inj e).symm
      subst this
      rw [hbx] at hgp
      simp only [Option.some.injEq, Obj.cells.injEq] at hgp
      exact absurd hgp.2.1 (by decide)
theorem own_below {w w' : World} {base e size n : Nat} {v : Value} {xs : List Value} (h : w.ownsRow base e size v n xs) (hb : Below w.heap.size w w') : w'.ownsRow base e size v n xs := by
  rcases h.2 with h2 | ⟨g, cap, cur, h3, h4, hg, hr⟩
  · exact ⟨h.1, .inl h2⟩
  · exact ⟨h.1, .inr ⟨g, cap, cur, h3, h4, (hb.block g (Array.getElem?_eq_some_iff.1 hg).1).trans hg, hr⟩⟩

theorem ap_next {L0 : List Prm} {K : List Opm} {i : Nat} {A R : List Prm} {o : Opm} (hd : A ++ R = applyP L0 (K.take i)) (low : ∀ x ∈ A, ∀ o ∈ K.drop i, kOf x < kO o) (hRA : Rise (A ++ R)) (ho : K[i]? = some o) (hK : KRise K) :
    (A ++ upTo R o) ++ past R o = applyP L0 (K.take (i + 1)) ∧ ∀ x ∈ A ++ upTo R o, ∀ o' ∈ K.drop (i + 1), kOf x < kO o' := by
  have hmem : K.drop i = o :: K.drop (i + 1) := by rw [← List.getElem_cons_drop (h := (List.getElem?_eq_some_iff.1 ho).1), (List.getElem?_eq_some_iff.1 ho).2]
  have hA : ∀ x ∈ A, kOf x < kO o := fun x hx => low x hx o (by rw [hmem]; simp)
  refine ⟨by rw [← merge_step hRA hA, hd, applyP_next ho], fun x hx o' ho' => ?_⟩
  have hoo : kO o < kO o' := by
    have h1 : KRise (o :: K.drop (i + 1)) := by rw [← hmem]; exact List.Pairwise.sublist (List.drop_sublist _ _) hK
    exact (List.pairwise_cons.1 h1).1 o' ho'
  rcases List.mem_append.1 hx with hx | hx
  · exact List.lt_trans (hA x hx) hoo
  · unfold upTo at hx
    rcases List.mem_append.1 hx with hx | hx
    · exact List.lt_trans (low_all x hx) hoo
    · split at hx
      · cases hx
      · obtain rfl : x = ⟨o.key, o.val⟩ := by simpa using hx
        rw [kOf_kO ⟨o.key, o.val⟩ o rfl]
        exact hoo

/-- The state of Apply's loop. -/
structure ApAt (w : World) (L0 : List Prm) (K : List Opm) (i : Nat) (wr : World) (al : Option Addr) (nl cl : Nat) (aa : Option Addr) (ra ca : Nat) (ak : Option Addr) (q ck : Nat) (A R : List Prm) : Prop where
  rest : Prr w (.slice al nl cl) nl R
  own : wr.ownsRow w.heap.size 56 2 (.slice aa ra ca) ra (pvs A)
  len : ra = A.length
  ops : wr.ownsRow w.heap.size 90 3 (.slice ak q ck) q (ovs K)
  below : Below w.heap.size w wr
  done : A ++ R = applyP L0 (K.take i)
  low : ∀ x ∈ A, ∀ o ∈ K.drop i, kOf x < kO o

end Go.Proofs.YthglbmnhlnpmkaaGreat

/- appendNumber, U32. Numbers and types by name. -/
namespace Go.Proofs.YthglbmnhlnpmkaaGreat
open Go.RowKit Go.Lib

theorem append_number (base : Nat) (v : Value) (m : Nat) (l : List UInt8) (n : Int) (w : World) (hown : Bs w base v m l) (hl : m < 100000000) (hbase : base ≤ w.heap.size) :
    Calls Tryz.prog 89 #[v, .int .i64 n] w fun e w' => ∃ ao c, e = .returned (.slice ao (m + 4) c) ∧ Bs w' base (.slice ao (m + 4) c) (m + 4) (l ++ be4 n) ∧ Below base w w' := by
  obtain ⟨ao, c, rfl⟩ := hown.shape
  have H1 : Hid (m + 4 ≤ maxLen) := Lib.hid (by unfold maxLen; omega)
  have H2 : Hid ((m + 4) * 1 ≤ 140737488355328) := Lib.hid (by omega)
  have HB := Lib.hid (bv_be4 n)
  clear hl
  go_enter Tryz.func89, Tryz.ntmps89
  go_wp2_with (at_builtin; refine wpList_append_bytes rfl (.tmp 5) (.tmp 17) rfl base (.slice ao m c) m l rfl (hown.alloc _) (.slice (some ⟨w.heap.size, 0, none⟩) 4 4) 4 (be4 n) rfl rfl (by rw [HB.out]; exact Reads.lit w _ _ (0, 0) 4 rfl) (m + 4) rfl H1 H2 (by simp; omega) ?_; intro ao' c' w1 hown1 hb1)
  go_ret
  exact ⟨ao', c', rfl, hown1, ((Below.refl base w).alloc hbase _).trans hb1⟩

theorem u32_any (n : Int) (w : World) :
    Calls Tryz.prog 87 #[.int .i64 n] w fun e w' => ∃ ao c, e = .returned (.slice ao 4 c) ∧ Bs w' w.heap.size (.slice ao 4 c) 4 (be4 n) ∧ Below w.heap.size w w' := by
  go_enter Tryz.func87, Tryz.ntmps87
  have H4 : Hid (4 ≤ 140737488355328) := Lib.hid (by decide)
  go_wp2_with (first | (at_make; refine wpList_make_bytes rfl _ _ rfl w.heap.size 4 4 rfl rfl rfl H4 (Nat.le_refl _) ?_; intro w1 hown1 hb1 hs1) | (go_at_call 89; refine (append_number w.heap.size _ 0 [] n _ hown1 (by decide) hb1.size).mono ?_; rintro e w2 ⟨ao, c, rfl, hown2, hb2⟩))
  go_ret
  exact ⟨ao, c, rfl, hown2, hb1.trans hb2⟩

theorem or8 (n y : Int) (h0 : 0 ≤ n) (h1 : n < 1099511627776) (y0 : 0 ≤ y) (y1 : y < 256) : bits .or .i64 (wrap64 (n * 256)) y = n * 256 + y := by
  rw [wrap64_id _ (by omega)]
  have hp : (2 : Int) ^ 62 = 4611686018427387904 := by decide
  exact bits_join .i64 62 (by decide) (fun m _ _ => by rw [IntKind.wrap_i64]; omega) 8 (n * 256) y (by omega) (by simp) (by omega) y0 (by simpa using y1) (by omega)

theorem get_any (v : Value) (m : Nat) (l : List UInt8) (k : Int) (w : World) (hr : Reads w v (bv l)) (hm : m = l.length) (hl : Hid (m ≤ maxLen)) :
    Calls Tryz.prog 95 #[v, .int .i64 k] w fun e w' => w' = w ∧ ((0 ≤ k ∧ k + 4 ≤ m ∧ e = .returned (.tuple #[.int .i64 (numOf ((l.drop k.toNat).take 4)), .bool true])) ∨ (¬ (0 ≤ k ∧ k + 4 ≤ m) ∧ e = .returned (.tuple #[.int .i64 0, .bool false]))) := by
  subst hm
  have hL := hl.out
  obtain ⟨ao, cap, rfl, hcap, hn, hc⟩ := hr
  rw [bv_length] at hcap ⊢
  have n3 : wrap64 ((l.length : Int) - 4) = (l.length : Int) - 4 := wrap64_id _ (by unfold maxLen at hL; omega)
  by_cases hin : 0 ≤ k ∧ k + 4 ≤ (l.length : Int)
  · obtain ⟨k, rfl⟩ := Int.eq_ofNat_of_zero_le hin.1
    obtain ⟨a, rfl⟩ : ∃ a, ao = some a := by
      cases ao with
      | some a => exact ⟨a, rfl⟩
      | none => have := (hn rfl).1; have : l = [] := by simpa [bv] using this
                subst this; simp at hin; omega
    have hkl : k + 4 ≤ l.length := by omega
    have hcell : ∀ j (x : UInt8), l[j]? = some x → w.cell? (a.add j) = some (.int .u8 (x.toNat : Int)) := fun j x hx => hc a rfl j _ (by simp [bv, hx])
    clear hc hn
    have n1 : ¬ ((k : Int) < 0) := by omega
    have n2 : ¬ ((l.length : Int) - 4 < (k : Int)) := by omega
    have n4 : wrap64 ((k : Int) + 4) = ((k + 4 : Nat) : Int) := by rw [wrap64_id _ (by unfold maxLen at hL; omega)]; omega
    have n5 : ((k + 4 : Nat) : Int) ≤ (cap : Int) := by omega
    have n6 : k ≤ k + 4 := by omega
    have n7 : k + 4 ≤ cap := by omega
    go_enter Tryz.func95, Tryz.ntmps95
    go_wp2_with fail
    clear n1 n2 n3 n4 n5 n6 n7 hcap hL hl hin
    go_loopw [6, 24] (fun nv i wr => ∃ j : Nat, j ≤ 4 ∧ i = .int .i64 j ∧ nv = .int .i64 (numOf ((l.drop k).take j)) ∧ w = wr)
      (fun _ i _ => 4 - (intOf i).toNat)
    case atStart => exact ⟨0, by omega, rfl, rfl, rfl⟩
    case round =>
      obtain ⟨j, hj, rfl, rfl, rfl⟩ := hrel
      by_cases hlt : j < 4
      · have hlt3 : (j : Int) < 4 := by omega
        obtain ⟨x, hx⟩ : ∃ x, l[k + j]? = some x := ⟨l[k + j], List.getElem?_eq_getElem (by omega)⟩
        have hc1 := hcell _ _ hx
        have hx256 : x.toNat < 256 := x.toNat_lt
        have hc2 : w.cell? ((a.add k).add j) = some (.int .u8 (x.toNat : Int)) := by rw [Addr.add_add]; exact hc1
        have HX := Lib.hid hx
        clear hx hcell
        go_wp2_with fail
        have hx := HX.out
        have hb := numOf_bound ((l.drop k).take j)
        have hlen : ((l.drop k).take j).length = j := by simp; omega
        have hsn : (l.drop k).take (j + 1) = (l.drop k).take j ++ [x] := by rw [List.take_add_one]; simp [hx]
        have hpow : (256 : Int) ^ j ≤ 16777216 := by
          have : j = 0 ∨ j = 1 ∨ j = 2 ∨ j = 3 := by omega
          rcases this with rfl | rfl | rfl | rfl <;> decide
        rw [hlen] at hb
        refine ⟨⟨j + 1, by omega, by simp, ?_, trivial⟩, by simp [intOf]; omega⟩
        rw [or8 _ _ hb.1 (by omega) (by omega) (by omega), hsn, numOf_snoc]
      · obtain rfl : j = 4 := by omega
        go_wp2_with fail
        go_ret2
        exact ⟨rfl, .inl ⟨by omega, by omega, rfl⟩⟩
  · have HIN := Lib.hid hin
    by_cases n1 : k < 0
    · clear hin n3
      go_enter Tryz.func95, Tryz.ntmps95
      go_wp2_with fail
      go_ret2
      first | exact ⟨rfl, .inr ⟨HIN.out, rfl⟩⟩ | exact ⟨rfl, .inr rfl⟩
    · have n2 : (l.length : Int) - 4 < k := by omega
      clear hin
      go_enter Tryz.func95, Tryz.ntmps95
      go_wp2_with fail
      go_ret2
      exact ⟨rfl, .inr ⟨by omega, rfl⟩⟩

theorem get_in (v : Value) (m : Nat) (l : List UInt8) (k : Nat) (w : World) (hr : Reads w v (bv l)) (hm : m = l.length) (hl : Hid (m ≤ maxLen)) (hk : k + 4 ≤ m) :
    Calls Tryz.prog 95 #[v, .int .i64 k] w fun e w' => e = .returned (.tuple #[.int .i64 (numOf ((l.drop k).take 4)), .bool true]) ∧ w' = w := by
  refine (get_any v m l k w hr hm hl).mono ?_
  rintro e w' ⟨rfl, h⟩
  rcases h with ⟨_, _, rfl⟩ | ⟨h, _⟩
  · exact ⟨rfl, rfl⟩
  · exact absurd ⟨by omega, by omega⟩ h

theorem get_out (v : Value) (m : Nat) (l : List UInt8) (k : Int) (w : World) (hr : Reads w v (bv l)) (hm : m = l.length) (hl : Hid (m ≤ maxLen)) (hk : ¬ (0 ≤ k ∧ k + 4 ≤ m)) :
    Calls Tryz.prog 95 #[v, .int .i64 k] w fun e w' => e = .returned (.tuple #[.int .i64 0, .bool false]) ∧ w' = w := by
  refine (get_any v m l k w hr hm hl).mono ?_
  rintro e w' ⟨rfl, h⟩
  rcases h with ⟨h0, h1, _⟩ | ⟨_, rfl⟩
  · exact absurd ⟨h0, h1⟩ hk
  · exact ⟨rfl, rfl⟩

end Go.Proofs.YthglbmnhlnpmkaaGreat

/- Encode of the code. Numbers and types by name. -/
namespace Go.Proofs.YthglbmnhlnpmkaaGreat
open Go.RowKit Go.Lib

theorem encode_any (v : Value) (n : Nat) (L : List ByteArray) (w : World) (hr : Texts w v n L) (hb : bulk L ≤ 10000) :
    Calls Tryz.prog 63 #[v] w fun e w' => ∃ ao c, e = .returned (.slice ao (enc L).length c) ∧ Bs w' w.heap.size (.slice ao (enc L).length c) (enc L).length (enc L) ∧ Below w.heap.size w w' := by
  obtain ⟨ao, c, rfl⟩ := hr.shape
  have HR := Lib.hid hr
  have hn := hr.1
  have hlen := encs_length L
  have hnb := bulk_length L
  have HL : Hid ((encs L).length ≤ 50000 ∧ n = L.length ∧ (enc L).length = 4 + (encs L).length ∧ n ≤ 10000) := Lib.hid ⟨by omega, hn, by simp [enc, be4_length], by omega⟩
  have hn1 : n ≤ 10000 := HL.out.2.2.2
  clear hr hlen hnb hb hn
  go_enter Tryz.func63, Tryz.ntmps63
  go_wp2_with fail
  go_loopw [3, 11] (fun nv i wr => ∃ k : Nat, k ≤ n ∧ i = .int .i64 k ∧ nv = .int .i64 ((4 + (encs (L.take k)).length : Nat) : Int) ∧ w = wr)
    (fun _ i _ => n - (intOf i).toNat)
  case atStart => exact ⟨0, Nat.zero_le _, rfl, rfl, rfl⟩
  case round =>
    obtain ⟨k, hk, rfl, rfl, rfl⟩ := hrel
    have hle := encs_take_le L k
    have hle2 := HL.out.1
    by_cases h1 : k < n
    · have h3 : (k : Int) < (n : Int) := by omega
      obtain ⟨a, s, rfl, hs, hc, hsz⟩ := HR.out.at h1
      have hT := encs_take hs
      have hle3 := encs_take_le L (k + 1)
      have hsz2 : (encs (L.take (k + 1))).length = (encs (L.take k)).length + 4 + s.size := by rw [hT]; simp [be4_length]; omega
      have HS := Lib.hid hs
      clear hs hT hsz
      generalize hmm : (encs (L.take k)).length = m at *
      go_wp2_with fail
      refine ⟨⟨k + 1, by omega, by simp, ?_, trivial⟩, by simp [intOf]; omega⟩
      rw [hsz2]; congr 1; omega
    · have h3 : ¬ (k : Int) < (n : Int) := by omega
      obtain rfl : k = n := by omega
      have hkL : L.take k = L := List.take_of_length_le (by have := HL.out.2.1; omega)
      rw [hkL] at hle ⊢
      have HM : Hid (4 + (encs L).length ≤ 140737488355328) := Lib.hid (by omega)
      have HC : Hid ((4 + ((encs L).length : Int)) = ((4 + (encs L).length : Nat) : Int)) := Lib.hid (by omega)
      clear hle hkL hk h1
      go_wp2_with (first | (at_make; refine wpList_make_bytes rfl _ _ rfl w.heap.size (4 + (encs L).length) (4 + ((encs L).length : Int)) rfl rfl HC.out HM (Nat.le_refl _) ?_; intro w1 hown1 hb1 hs1) | (go_at_call 89; refine (append_number w.heap.size _ 0 [] k _ hown1 (by decide) hb1.size).mono ?_; rintro e w2 ⟨ao2, c2, rfl, hown2, hb2⟩))
      have HB := Lib.hid (And.intro hown2 (hb1.trans hb2))
      clear hown1 hb1 hs1 hown2 hb2 HM HC
      go_loopw [6, 28] (fun v i wr => ∃ j : Nat, j ≤ k ∧ i = .int .i64 j ∧ Hid (∃ ao m c, v = .slice ao m c ∧ Bs wr w.heap.size (.slice ao m c) m (be4 k ++ encs (L.take j)) ∧ Below w.heap.size w wr))
        (fun _ i _ => k - (intOf i).toNat)
      case atStart => exact ⟨0, Nat.zero_le _, rfl, Lib.hid ⟨_, _, _, rfl, by simpa [encs] using HB.out.1, HB.out.2⟩⟩
      case round =>
        obtain ⟨j, hj, rfl, hrel⟩ := hrel
        obtain ⟨ao2, m, c2, rfl, hown, hbel⟩ := hrel.out
        clear HB hrel
        have hm : m = 4 + (encs (L.take j)).length := by rw [hown.1]; simp [be4_length]
        have hle := encs_take_le L j
        by_cases h1 : j < k
        · have h3 : (j : Int) < (k : Int) := by omega
          obtain ⟨a, s, rfl, hs, hc, hsz⟩ := (HR.out.below hbel).at h1
          have hT := encs_take hs
          have hle3 := encs_take_le L (j + 1)
          have hsz2 : (encs (L.take (j + 1))).length = (encs (L.take j)).length + 4 + s.size := by rw [hT]; simp [be4_length]; omega
          have HT := Lib.hid hT
          have HM : Hid (m + 4 + s.size ≤ maxLen) := Lib.hid (by unfold maxLen; omega)
          have HM2 : Hid (m + 4 + s.size ≤ 140737488355328) := Lib.hid (by omega)
          have hm2 : m < 100000000 := by omega
          have HO := Lib.hid (And.intro hown hbel)
          clear hs hT hsz hown hbel hle hle3 hsz2 hm
          go_wp2_with (first | (go_at_call 89; refine (append_number w.heap.size _ m _ s.size _ HO.out.1 hm2 HO.out.2.size).mono ?_; rintro e w2 ⟨ao3, c3, rfl, hown3, hb3⟩) | (at_builtin; refine wpList_append_text rfl _ _ rfl w.heap.size _ (m + 4) _ rfl hown3 s rfl (m + 4 + s.size) rfl HM HM2 (HO.out.2.trans hb3).size ?_; intro ao4 c4 w4 hown4 hb4))
          refine ⟨⟨j + 1, by omega, by simp, Lib.hid ⟨ao4, _, c4, rfl, ?_, (HO.out.2.trans hb3).trans hb4⟩⟩, by simp [intOf]; omega⟩
          rw [HT.out]
          simpa [List.append_assoc] using hown4
        · have h3 : ¬ (j : Int) < (k : Int) := by omega
          obtain rfl : j = k := by omega
          have hkL : L.take j = L := List.take_of_length_le (by have := HL.out.2.1; omega)
          rw [hkL] at hown hm hle
          go_wp2_with fail
          go_ret
          have hE := HL.out.2.2.1
          have hjl : j = L.length := HL.out.2.1
          rw [← hE] at hm
          subst hm
          refine ⟨ao2, c2, ?_, ?_, hbel⟩
          · simp [hE]
          · show Bs wr _ _ _ (be4 L.length ++ encs L)
            rw [← hjl]
            exact hown

end Go.Proofs.YthglbmnhlnpmkaaGreat

namespace Go.Proofs.YthglbmnhlnpmkaaGreat
open Go.RowKit Go.Lib

theorem shifted_any (c : BitVec 32) (w : World) :
    Calls Tryz.prog 132 #[.int .u32 (c.toNat : Int)] w fun e w' => e = .returned (.int .u32 ((sh c).toNat : Int)) ∧ w = w' := by
  have hlt := c.isLt
  cases hlow : c.getLsbD 0 with
  | true =>
    have f1 := low_one hlow
    have f2 := step_one hlow
    have f3 : bits .and .u32 3988292384 4294967295 = 3988292384 := by decide
    generalize sh c = d at *
    clear hlow
    go_enter Tryz.func132, Tryz.ntmps132
    go_wp2_with fail
    go_ret
    exact ⟨rfl, rfl⟩
  | false =>
    have f1 := low_none hlow
    have f2 := step_none hlow
    have f3 : bits .and .u32 3988292384 0 = 0 := by decide
    have f4 : bits .xor .u32 ((sh c).toNat : Int) 0 = ((sh c).toNat : Int) := by
      have := bits_xor_u32 (sh c) 0#32
      rw [BitVec.xor_zero] at this
      exact this
    generalize sh c = d at *
    clear hlow
    go_enter Tryz.func132, Tryz.ntmps132
    go_wp2_with fail
    go_ret
    exact ⟨rfl, rfl⟩

theorem more_any (s : Int) (v : Value) (m : Nat) (l : List UInt8) (w : World) (hr : Reads w v (bv l)) (hm : m = l.length) (hl : Hid (m ≤ 1000000000)) :
    Calls Tryz.prog 115 #[.int .i64 s, v] w fun e w' => e = .returned (.int .i64 (sumOf s l)) ∧ w' = w := by
  obtain ⟨ao, c, rfl⟩ : ∃ ao c, v = .slice ao m c := by obtain ⟨ao, c, rfl, _⟩ := hr; exact ⟨ao, c, by rw [bv_length, hm]⟩
  have hb := begun_not s
  have hl' := hl.out
  have HR := Lib.hid (And.intro hr hm)
  clear hr hm
  go_enter Tryz.func115, Tryz.ntmps115
  go_wp2_with fail
  clear hb
  go_loopw [5, 13] (fun cv i wr => ∃ k : Nat, k ≤ m ∧ i = .int .i64 k ∧ cv = .int .u32 ((crc (begun s) (l.take k)).toNat : Int) ∧ w = wr)
    (fun _ i _ => m - (intOf i).toNat)
  case atStart => exact ⟨0, Nat.zero_le _, rfl, rfl, rfl⟩
  case round =>
    obtain ⟨k, hk, rfl, rfl, rfl⟩ := hrel
    by_cases hlt : k < m
    · have h3 : (k : Int) < (m : Int) := by omega
      obtain ⟨x, hx⟩ : ∃ x, l[k]? = some x := ⟨l[k]'(by have := HR.out.2; omega), List.getElem?_eq_getElem (by have := HR.out.2; omega)⟩
      obtain ⟨a, rfl, hc⟩ : ∃ a, ao = some a ∧ w.cell? (a.add k) = some (.int .u8 (x.toNat : Int)) := by
        obtain ⟨ao', c', e, _, hn, h2⟩ := HR.out.1
        simp only [Value.slice.injEq] at e
        obtain ⟨rfl, _, _⟩ := e
        cases ao with
        | none => have := (hn rfl).1; have : l = [] := by simpa [bv] using this
                  subst this; simp at hx
        | some a => exact ⟨a, rfl, h2 a rfl k _ (by simp [bv, hx])⟩
      have hxor := byte_xor (crc (begun s) (l.take k)) x
      have HN := Lib.hid (crc_take (begun s) hx)
      have hx256 := x.toNat_lt
      clear hx
      generalize crc (begun s) (l.take k) = c0 at *
      generalize hd : c0 ^^^ BitVec.ofNat 32 x.toNat = d at *
      have HD := Lib.hid hd
      clear hd
      go_wp2_with fail
      clear hxor hc
      go_loopw [5, 21] (fun cv i wr => ∃ j : Nat, j ≤ 8 ∧ i = .int .i64 j ∧ cv = .int .u32 ((shs j d).toNat : Int) ∧ w = wr)
        (fun _ i _ => 8 - (intOf i).toNat)
      case atStart => exact ⟨0, by omega, rfl, rfl, rfl⟩
      case round =>
        obtain ⟨j, hj, rfl, rfl, rfl⟩ := hrel
        by_cases hj8 : j < 8
        · have h4 : (j : Int) < 8 := by omega
          have hsucc := shs_succ j d
          have HS := Lib.hid hsucc
          clear hsucc
          go_wp2_with fail
          refine (shifted_any (shs j d) w).mono ?_
          rintro e w' ⟨rfl, rfl⟩
          rw [← HS.out]
          go_wp2_with fail
          exact ⟨⟨j + 1, by omega, by simp, rfl, trivial⟩, by simp [intOf]; omega⟩
        · obtain rfl : j = 8 := by omega
          go_wp2_with fail
          refine ⟨⟨k + 1, by omega, by simp, ?_, trivial⟩, by simp [intOf]; omega⟩
          rw [HN.out]
          unfold feed
          rw [HD.out]
    · obtain rfl : k = m := by omega
      have h3 : ¬ (k : Int) < (k : Int) := by omega
      have hk2 : l.take k = l := List.take_of_length_le (by have := HR.out.2; omega)
      rw [hk2]
      have he := ended_not (crc (begun s) l)
      have hbd := sumOf_bound s l
      rw [show ((crc (begun s) l ^^^ ones).toNat : Int) = sumOf s l from rfl] at he
      have hwz : wrap64 (sumOf s l) = sumOf s l := by unfold wrap64; omega
      generalize hz : sumOf s l = z at *
      have HZ := Lib.hid hz
      clear hbd hz
      go_wp2_with fail
      go_ret
      rw [HZ.out]
      exact ⟨rfl, rfl⟩

theorem sum_any (v : Value) (m : Nat) (l : List UInt8) (w : World) (hr : Reads w v (bv l)) (hm : m = l.length) (hl : Hid (m ≤ 1000000000)) :
    Calls Tryz.prog 88 #[v] w fun e w' => e = .returned (.int .i64 (sumOf 0 l)) ∧ w' = w := by
  have G := more_any 0 v m l w hr hm hl
  go_enter Tryz.func88, Tryz.ntmps88
  go_wp2_with (go_at_call 115; refine G.mono ?_; rintro e w' ⟨rfl, rfl⟩)
  go_ret
  first | exact rfl | exact ⟨rfl, rfl⟩

end Go.Proofs.YthglbmnhlnpmkaaGreat
