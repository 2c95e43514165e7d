/- The index's lists: plain facts. -/
import Derived.Test.YthcdkggkoanjpaaGreatDoorGen
import Derived.Test.YthcdkggkoanjpaaGreatDoorIxl
import Derived.Lib.SliceRun
import Derived.Test.YthcdkggkoanjpaaGreatDoorPrf
/- The index's lists: slices.Delete, del. Numbers and types by name. -/
namespace Go.Proofs.YthcdkggkoanjpaaGreatDoor
open Go.RowKit Go.Lib
set_option maxRecDepth 100000
def setL {α : Type} : List α → Nat → List α → List α
  | L, _, [] => L
  | L, o, v :: r => setL (L.set o v) (o + 1) r
theorem setL_eq {α : Type} : ∀ (news L : List α) (o : Nat), o + news.length ≤ L.length → setL L o news = L.take o ++ news ++ L.drop (o + news.length)
  | [], L, o, h => by simp [setL]
  | v :: r, L, o, h => by
    simp only [List.length_cons] at h
    unfold setL
    rw [setL_eq r (L.set o v) (o + 1) (by rw [List.length_set]; omega)]
    have e1 : (L.set o v).take (o + 1) = L.take o ++ [v] := by
      rw [List.take_add_one, List.getElem?_set_self (by omega), List.take_set_of_le (Nat.le_refl _)]
      rfl
    have e2 : (L.set o v).drop (o + 1 + r.length) = L.drop (o + (v :: r).length) := by
      rw [List.drop_set_of_lt (by omega)]
      congr 1
      simp only [List.length_cons]
      omega
    rw [e1, e2]
    simp
theorem own_setCells {base e size g n c : Nat} : ∀ (news : List Value) (o : Nat) {w : World} {xs : List Value}, w.ownsRow base e size (.slice (some ⟨g, 0, none⟩) n c) n xs →
    (w.setCells g o news).ownsRow base e size (.slice (some ⟨g, 0, none⟩) n c) n (setL xs o news)
  | [], _, _, _, h => h
  | _ :: r, o, _, _, h => own_setCells r (o + 1) (own_set h o _)
theorem turn_setCells {F : List Nat} {g : Nat} (hg : g ∈ F) : ∀ (news : List Value) (o : Nat) {a w : World}, Turn F a w → Turn F a (w.setCells g o news)
  | [], _, _, _, h => h
  | _ :: r, o, _, _, h => turn_setCells hg r (o + 1) (h.set (.inl hg) o _)
theorem own_shrink {w : World} {base e size g n c m : Nat} {xs : List Value} (h : w.ownsRow base e size (.slice (some ⟨g, 0, none⟩) n c) n xs) (hm : m ≤ n) :
    w.ownsRow base e size (.slice (some ⟨g, 0, none⟩) m c) m (xs.take (m * size)) := by
  obtain ⟨h1, h2 | ⟨g', cap, cur, e, hb, hg, hnc, hcm, hcs, ht⟩⟩ := h
  · exact absurd h2.1 (by simp)
  · simp only [Value.slice.injEq, Option.some.injEq, Addr.mk.injEq, and_true] at e
    obtain ⟨rfl, _, rfl⟩ := e
    have hle : m * size ≤ n * size := Nat.mul_le_mul_right _ hm
    refine ⟨by rw [List.length_take]; omega, .inr ⟨g, c, cur, rfl, hb, hg, by omega, hcm, hcs, ?_⟩⟩
    rw [← ht, List.take_take, Nat.min_eq_left hle]
theorem pvs_append (A B : List Prm) : pvs (A ++ B) = pvs A ++ pvs B := by simp [pvs]
theorem pvs_oneL (A : List Prm) : ∀ u ∈ pvs A, u.oneCell' = true := by
  intro u hu
  simp only [pvs, List.mem_flatMap, pv, List.mem_cons, List.not_mem_nil, or_false] at hu
  obtain ⟨o, _, rfl | rfl⟩ := hu <;> rfl
theorem pvs_drop (E : List Prm) (j : Nat) : (pvs E).drop (j * 2) = pvs (E.drop j) := by
  by_cases h : j ≤ E.length
  · conv => lhs; rw [← List.take_append_drop j E, pvs_append]
    rw [List.drop_left' (by rw [pvs_length, List.length_take, Nat.min_eq_left h])]
  · rw [List.drop_of_length_le (by rw [pvs_length]; omega), List.drop_of_length_le (by omega)]
    rfl
theorem pvs_take (E : List Prm) (j : Nat) : (pvs E).take (j * 2) = pvs (E.take j) := by
  by_cases h : j ≤ E.length
  · conv => lhs; rw [← List.take_append_drop j E, pvs_append]
    rw [List.take_left' (by rw [pvs_length, List.length_take, Nat.min_eq_left h])]
  · rw [List.take_of_length_le (by rw [pvs_length]; omega), List.take_of_length_le (by omega)]
theorem moved_del {E : List Prm} {j n : Nat} (hn : n = E.length) (hj : j < n) : (setL (pvs E) (j * 2) (pvs (E.drop (j + 1)))).take ((n - 1) * 2) = pvs (E.eraseIdx j) := by
  have hl : (pvs (E.drop (j + 1))).length = (n - 1 - j) * 2 := by rw [pvs_length, List.length_drop]; congr 1; omega
  have hL := pvs_length E
  rw [setL_eq _ _ _ (by rw [hl, hL]; omega), pvs_take, List.eraseIdx_eq_take_drop_succ, pvs_append]
  apply List.take_left'
  rw [List.length_append, hl, pvs_length, List.length_take]
  omega
theorem run_clear_two (w : World) (ty : TypeId) (b o c : Nat) (hc : ∀ j, j < 2 → (w.cell? ⟨b, o + j, none⟩).isSome = true) (hf : ∀ j, j < 2 → w.frozen? ⟨b, o + j, none⟩ = false) :
    (Builtin.clear_ #[145] ty #[.slice (some ⟨b, o, none⟩) 1 c]).run Tryz.prog w = .ok (.tuple #[]) (w.setCells b o [.string ⟨#[]⟩, .string ⟨#[]⟩]) := by
  have hst := run_storeCells_cells (P := Tryz.prog) b o [.string ⟨#[]⟩, .string ⟨#[]⟩] 0 w (by simpa using hc) (by simpa using hf) (by simp [Value.oneCell'])
  simp only [Nat.add_zero] at hst
  have hv : (zeroValue 147).run Tryz.prog w = .ok (.agg #[.string ⟨#[]⟩, .string ⟨#[]⟩]) w := by kernel_rfl
  have hzc : (Builtin.zeroCells (Value.agg #[.string ⟨#[]⟩, .string ⟨#[]⟩]).cells 1).toList = [.string ⟨#[]⟩, .string ⟨#[]⟩] := by kernel_rfl
  simp [Builtin.clear_, run_underlying Tryz.underlying145, hv, hzc, hst]
set_option maxHeartbeats 4000000 in
theorem delete_any (g n c j j1 : Nat) (E : List Prm) (w : World) (hr : LEnt w (.slice (some ⟨g, 0, none⟩) n c) n E) (hj : j < n) (hj1 : j1 = j + 1) (hl : n ≤ 1000000) (hc : n ≤ c) (hcm : c ≤ maxLen) :
    Calls Tryz.prog 162 #[.slice (some ⟨g, 0, none⟩) n c, .int .i64 j, .int .i64 (j1 : Int)] w fun e w' => e = .returned (.slice (some ⟨g, 0, none⟩) (n - 1) c) ∧ LEnt w' (.slice (some ⟨g, 0, none⟩) (n - 1) c) (n - 1) (E.eraseIdx j) ∧ Turn [g] w w' := by
  unfold maxLen at hcm
  obtain ⟨i0, hi0, hz0, hz1, hz2⟩ := info_parts elemEnt.info
  obtain ⟨news, hnews⟩ : ∃ news, news = pvs (E.drop j1) := ⟨_, rfl⟩
  have hlen : news.length = (n - j1) * 2 := by rw [hnews, pvs_length, List.length_drop, hr.1]
  have hpl := pvs_length E
  have hn := hr.1
  have hget : ∀ t u, news[t]? = some u → w.cell? ⟨g, j1 * 2 + t, none⟩ = some u := by
    intro t u hu
    have ht : t < news.length := (List.getElem?_eq_some_iff.1 hu).1
    rw [World.ownsRow.cellAt hr.2 _ (by omega), ← hu, hnews, ← pvs_drop, List.getElem?_drop]
  obtain ⟨A, hA, hsrc⟩ : ∃ A : Addr, (if c = j1 then some (⟨g, 0, none⟩ : Addr) else some ⟨g, j1 * 2, none⟩) = some A ∧ Hid (∀ t u, news[t]? = some u → w.drew.cell? (A.add t) = some u) := by
    by_cases h : c = j1
    · refine ⟨⟨g, 0, none⟩, by simp [h], Lib.hid fun t u hu => ?_⟩
      have h0 : news.length = 0 := by rw [hlen]; omega
      rw [List.length_eq_zero_iff.1 h0] at hu
      simp at hu
    · refine ⟨⟨g, j1 * 2, none⟩, by simp [h], Lib.hid fun t u hu => ?_⟩
      rw [Addr.add_lit]
      exact hget t u hu
  have s1 : Hid (news.length = (n - j1) * 2) := Lib.hid hlen
  have s2 : Hid (∀ u ∈ news, u.oneCell' = true) := Lib.hid (by rw [hnews]; exact pvs_oneL _)
  have s3 : Hid (∀ t, t < news.length → (w.drew.cell? ⟨g, 0 + j * 2 + t, none⟩).isSome = true ∧ w.drew.frozen? ⟨g, 0 + j * 2 + t, none⟩ = false) := Lib.hid (by
    intro t ht
    refine ⟨?_, World.ownsRow.frozenAt hr.2 _⟩
    have : w.cell? ⟨g, 0 + j * 2 + t, none⟩ = (pvs E)[0 + j * 2 + t]? := World.ownsRow.cellAt hr.2 _ (by omega)
    show (w.cell? _).isSome = true
    rw [this, List.getElem?_eq_getElem (by omega)]
    rfl)
  obtain ⟨W1, hW1⟩ : ∃ W1, W1 = w.drew.setCells g (0 + j * 2) news := ⟨_, rfl⟩
  have hO1 : W1.ownsRow 0 147 2 (.slice (some ⟨g, 0, none⟩) n c) n (setL (pvs E) (0 + j * 2) news) := by rw [hW1]; exact own_setCells news _ hr.2.drew
  have hcl : ∀ ty, (Builtin.clear_ #[145] ty #[.slice (some ⟨g, (n - 1) * 2, none⟩) 1 (c - (n - 1))]).run Tryz.prog W1 = .ok (.tuple #[]) (W1.setCells g ((n - 1) * 2) [.string ⟨#[]⟩, .string ⟨#[]⟩]) := by
    intro ty
    refine run_clear_two W1 ty g ((n - 1) * 2) _ (fun t ht => ?_) (fun t ht => World.ownsRow.frozenAt hO1 _)
    have h1 : (setL (pvs E) (0 + j * 2) news).length = n * 2 := hO1.1
    rw [World.ownsRow.cellAt hO1 _ (by omega), List.getElem?_eq_getElem (by omega)]
    rfl
  have HX := Lib.hid (And.intro hO1 (And.intro hnews (And.intro hn hW1)))
  have hW : Hid (W1 = w.drew.setCells g (0 + j * 2) news) := Lib.hid hW1
  have hjc : j ≤ c := by omega
  have hjc1 : j1 ≤ c := by omega
  have hjn1 : j1 ≤ n := by omega
  have hjj : j ≤ j1 := by omega
  have hne : ¬ (j : Int) = (j1 : Int) := by omega
  have HJ := Lib.hid (And.intro hj hj1)
  have e1 : n - 1 - j = n - j1 := by omega
  have e2 : j + (n - j1) = n - 1 := by omega
  clear hW1 hO1 hget hnews hlen hpl hr hn hj1
  go_enter Tryz.func162, Tryz.ntmps162
  go_wp2_with fail
  go_region_law (refine step_append_room rfl (.tmp 22) (.tmp 25) 145 rfl 147 i0 2 Tryz.underlying145 hi0 hz1 g 0 j c (by simp [Act.eval, Act.put]) A (n - j1) (c - j1) news (by simp [Act.eval, Act.put, hA]) s1.out hsrc.out s2.out (by omega) s3.out ?_; rw [← hW.out])
  have g1 : n - 1 ≤ n := by omega
  have g2 : n - (n - 1) = 1 := by omega
  have g3 : ¬ c = n - 1 := by omega
  have g4 : n - 1 ≤ c := by omega
  go_wp2_with fail
  go_ret
  obtain ⟨hO1, hnews, hn, hW1⟩ := HX.out
  obtain ⟨hj, hj1⟩ := HJ.out
  have ht0 : Turn [g] w W1 := by rw [hW1]; exact turn_setCells (by simp) _ _ (Turn.refl _ _).drew
  refine ⟨rfl, ⟨by rw [List.length_eraseIdx, if_pos (by omega)]; omega, ?_⟩, turn_setCells (by simp) _ _ ht0⟩
  have hS := own_setCells [.string ⟨#[]⟩, .string ⟨#[]⟩] ((n - 1) * 2) (own_shrink hO1 (show n - 1 ≤ n by omega))
  have hlen := hS.1
  have hl0 := (own_shrink hO1 (show n - 1 ≤ n by omega)).1
  rw [Nat.zero_add, hnews, hj1, moved_del hn hj] at hS hl0
  simp only [setL] at hS
  rw [List.set_eq_of_length_le (by rw [List.length_set]; omega), List.set_eq_of_length_le (by omega)] at hS
  exact hS
def delE (E : List Prm) (k : ByteArray) : List Prm := match E.findIdx? (hasK k) with | some j => E.eraseIdx j | none => E
theorem ldel_any (g m i : Nat) (sl : List Value) (v : Value) (n : Nat) (E : List Prm) (k : ByteArray) (w : World) (hT : Tbl w g m sl) (hi : sl[i]? = some v) (hr : LEnt w v n E) (hne : v.ownBlock ≠ some g) (hl : n < 900000) :
    Calls Tryz.prog 114 #[.pointer (some ⟨g, i, none⟩), .string k] w fun e w' => e = .returned (.bool (findP E k).2) ∧ LNext w w' g m sl i v (delE E k) := by
  have P := find_any ⟨g, i, none⟩ v n E k w (hT.cell hi) hr.cells hr.1 (by omega)
  have HR := Lib.hid (And.intro hr (And.intro hT (And.intro hi hne)))
  clear hr hT hi hne
  cases hf : E.findIdx? (hasK k) with
  | none =>
    rw [hf] at P
    rw [find_no hf]
    have HE : Hid (delE E k = E) := Lib.hid (by unfold delE; rw [hf])
    unfold posI at P
    simp only at P
    clear hf
    go_enter Tryz.func114, Tryz.ntmps114
    go_wp2_with fail
    refine P.mono ?_
    rintro e w' ⟨rfl, h1⟩
    go_wp2_with fail
    go_ret
    have t1 := tb9 h1
    refine ⟨rfl, v, n, ?_, ?_, t1.mono (by simp), .inl rfl⟩
    · rw [set_sameL HR.out.2.2.1]
      exact HR.out.2.1.turn t1 (by simp)
    · rw [HE.out]
      exact HR.out.1.turn t1 (by simp)
  | some j =>
    rw [hf] at P
    obtain ⟨o, ho, _, hv⟩ := find_of hf
    rw [hv]
    have HE : Hid (delE E k = E.eraseIdx j) := Lib.hid (by unfold delE; rw [hf])
    unfold posI at P
    simp only at P
    clear hf hv
    go_enter Tryz.func114, Tryz.ntmps114
    go_wp2_with fail
    refine P.mono ?_
    rintro e w' ⟨rfl, h1⟩
    have t1 := tb9 h1
    have hr' := HR.out.1.turn t1 (by simp)
    have hT' := HR.out.2.1.turn t1 (by simp)
    have p1 := hT'.cell HR.out.2.2.1
    obtain ⟨g2, c, rfl, hjn, _⟩ := hr'.at ho
    obtain ⟨hc1, hc2⟩ : n ≤ c ∧ c ≤ maxLen := by
      obtain ⟨_, h2 | ⟨g', cap, cur, e, _, _, h3, h4, _⟩⟩ := hr'.2
      · exact absurd h2.1 (by simp)
      · simp only [Value.slice.injEq] at e
        obtain ⟨_, _, rfl⟩ := e
        exact ⟨h3, h4⟩
    have D := delete_any g2 n c j (j + 1) E w' hr' hjn rfl (by omega) hc1 hc2
    rw [show ((j + 1 : Nat) : Int) = (j : Int) + 1 from by omega] at D
    have hne2 : g2 ≠ g := fun e => HR.out.2.2.2 (by rw [e]; rfl)
    have h3 : ¬ (j : Int) < 0 := by omega
    have h4 : wrap64 ((j : Int) + 1) = (j : Int) + 1 := by unfold wrap64; omega
    have HX := Lib.hid (And.intro hr' (And.intro hT' (And.intro t1 hne2)))
    clear hr' hT' ho P h1 t1 hc1 hc2
    go_wp2_with fail
    refine D.mono ?_
    rintro e w2 ⟨rfl, h5, t5⟩
    have hT5 := HX.out.2.1.turn t5 (by simpa using fun e => HX.out.2.2.2 e.symm)
    have p5 := hT5.cell HR.out.2.2.1
    have f5 := hT5.free i
    have HY := Lib.hid (And.intro h5 (And.intro t5 hT5))
    clear h5 t5 hT5 D
    go_wp2_with fail
    go_ret
    obtain ⟨h5, t5, hT5⟩ := HY.out
    refine ⟨rfl, .slice (some ⟨g2, 0, none⟩) (n - 1) c, n - 1, own_set hT5 _ _, ?_, ?_, .inl rfl⟩
    · rw [HE.out]
      exact ⟨h5.1, row_turnL h5.2 (Turn.set (F := [g]) (Turn.refl _ _) (.inl (by simp)) _ _) (fun q hq e => by
        have e : q = g := by simpa using e
        rw [e] at hq
        exact HR.out.2.2.2 hq)⟩
    · exact (((HX.out.2.2.1.mono (by simp)).trans' t5 (fun q hq => .inl (by simpa [Value.ownBlock] using Or.inr (by simpa using hq)))).set (F := g :: (Value.slice (some ⟨g2, 0, none⟩) n c).ownBlock.toList) (.inl (by simp)) _ _)
end Go.Proofs.YthcdkggkoanjpaaGreatDoor

namespace Go.Proofs.YthcdkggkoanjpaaGreatDoor
open Go.RowKit Go.Lib
def Apart (E : List Prm) : Prop := E.Pairwise fun a b => a.key ≠ b.key
theorem look_in {L : List Prm} (h : Apart L) {o : Prm} (ho : o ∈ L) : look L o.key = some o.val := by
  induction L with
  | nil => cases ho
  | cons z L ih =>
    rw [look_cons]
    have h1 := List.pairwise_cons.1 h
    rcases List.mem_cons.1 ho with rfl | ho
    · simp
    · rw [if_neg (h1.1 o ho), ih h1.2 ho]
theorem mem_look {L : List Prm} {k v : ByteArray} (h : look L k = some v) : ⟨k, v⟩ ∈ L := by
  obtain ⟨z, hz, rfl, rfl⟩ := look_mem h
  exact hz
theorem mem_iff_look {L : List Prm} (h : Apart L) (o : Prm) : o ∈ L ↔ look L o.key = some o.val := ⟨look_in h, fun e => mem_look e⟩
theorem rise_apart {L : List Prm} (h : Rise L) : Apart L := List.Pairwise.imp (fun {a b} (hab : kOf a < kOf b) e => by unfold kOf at hab; rw [e] at hab; exact List.lt_irrefl _ hab) h
theorem lputE_nil (k x : ByteArray) : lputE [] k x = [⟨k, x⟩] := rfl
theorem lputE_cons (y : Prm) (E : List Prm) (k x : ByteArray) : lputE (y :: E) k x = if y.key = k then ⟨k, x⟩ :: E else y :: lputE E k x := by
  unfold lputE
  rw [List.findIdx?_cons]
  by_cases h : y.key = k
  · simp [hasK, h]
  · have hk : hasK k y = false := by simp [hasK, h]
    rw [hk]
    cases hf : E.findIdx? (hasK k) <;> simp [h]
theorem delE_cons (y : Prm) (E : List Prm) (k : ByteArray) : delE (y :: E) k = if y.key = k then E else y :: delE E k := by
  unfold delE
  rw [List.findIdx?_cons]
  by_cases h : y.key = k
  · simp [hasK, h]
  · have hk : hasK k y = false := by simp [hasK, h]
    rw [hk]
    cases hf : E.findIdx? (hasK k) <;> simp [h]
theorem look_putE (E : List Prm) (k x a : ByteArray) : look (lputE E k x) a = if k = a then some x else look E a := by
  induction E with
  | nil => rw [lputE_nil, look_cons]
  | cons y E ih =>
    rw [lputE_cons]
    by_cases h : y.key = k
    · rw [if_pos h, look_cons, look_cons]
      by_cases h2 : k = a
      · simp [h2]
      · rw [if_neg h2, if_neg h2, if_neg (by rw [h]; exact h2)]
    · rw [if_neg h, look_cons, look_cons, ih]
      by_cases h2 : k = a
      · rw [if_neg (by rw [← h2]; exact h), if_pos h2, if_pos h2]
      · simp [h2]
theorem mem_putE {E : List Prm} {k x : ByteArray} {o : Prm} (h : o ∈ lputE E k x) : o.key = k ∨ o ∈ E := by
  induction E with
  | nil => rw [lputE_nil] at h; exact .inl (by rw [List.mem_singleton.1 h])
  | cons y E ih =>
    rw [lputE_cons] at h
    by_cases hk : y.key = k
    · rw [if_pos hk] at h
      rcases List.mem_cons.1 h with rfl | h
      · exact .inl rfl
      · exact .inr (List.mem_cons_of_mem _ h)
    · rw [if_neg hk] at h
      rcases List.mem_cons.1 h with rfl | h
      · exact .inr (by simp)
      · exact (ih h).imp id (List.mem_cons_of_mem _)
theorem apart_putE {E : List Prm} (h : Apart E) (k x : ByteArray) : Apart (lputE E k x) := by
  induction E with
  | nil => rw [lputE_nil]; exact List.pairwise_singleton _ _
  | cons y E ih =>
    have h1 := List.pairwise_cons.1 h
    rw [lputE_cons]
    by_cases hk : y.key = k
    · rw [if_pos hk]
      exact List.Pairwise.cons (fun z hz => by rw [← hk]; exact h1.1 z hz) h1.2
    · rw [if_neg hk]
      exact List.Pairwise.cons (fun z hz => by
        rcases mem_putE hz with e | hz
        · rw [e]; exact hk
        · exact h1.1 z hz) (ih h1.2)
theorem delE_sub (E : List Prm) (k : ByteArray) : (delE E k).Sublist E := by
  unfold delE
  split
  · exact List.eraseIdx_sublist _ _
  · exact List.Sublist.refl _
theorem look_delE {E : List Prm} (h : Apart E) (k a : ByteArray) : look (delE E k) a = if k = a then none else look E a := by
  induction E with
  | nil => unfold delE; simp [look]
  | cons y E ih =>
    have h1 := List.pairwise_cons.1 h
    rw [delE_cons]
    by_cases hk : y.key = k
    · rw [if_pos hk, look_cons]
      by_cases h2 : k = a
      · rw [if_pos h2]
        exact look_none fun z hz e => h1.1 z hz (by rw [hk, h2, e])
      · rw [if_neg h2, if_neg (by rw [hk]; exact h2)]
    · rw [if_neg hk, look_cons, look_cons, ih h1.2]
      by_cases h2 : k = a
      · rw [if_neg (by rw [← h2]; exact hk), if_pos h2, if_pos h2]
      · simp [h2]
def bkt (m : Nat) (k : ByteArray) : Nat := (sumOf 0 k.data.toList).toNat % m
theorem bkt_lt {m : Nat} (h : 0 < m) (k : ByteArray) : bkt m k < m := Nat.mod_lt _ h
structure Split (m : Nat) (Es : List (List Prm)) (L : List Prm) : Prop where
  len : Es.length = m
  apart : ∀ (i : Nat) (E : List Prm), Es[i]? = some E → Apart E
  home : ∀ (i : Nat) (E : List Prm), Es[i]? = some E → ∀ o ∈ E, bkt m o.key = i
  same : ∀ k E, Es[bkt m k]? = some E → look L k = look E k
theorem Split.get {m : Nat} {Es : List (List Prm)} {L : List Prm} (h : Split m Es L) (hm : 0 < m) (k : ByteArray) : ∃ E, Es[bkt m k]? = some E :=
  ⟨_, List.getElem?_eq_getElem (by rw [h.len]; exact bkt_lt hm k)⟩
theorem Split.perm {m : Nat} {Es : List (List Prm)} {L : List Prm} (h : Split m Es L) (hm : 0 < m) (hR : Rise L) : Es.flatten.Perm L := by
  have hap : Apart Es.flatten := by
    unfold Apart
    rw [List.pairwise_flatten]
    refine ⟨fun l hl => ?_, ?_⟩
    · obtain ⟨i, hi⟩ := List.getElem?_of_mem hl
      exact h.apart i l hi
    · rw [List.pairwise_iff_getElem]
      intro i j hi hj hij x hx y hy e
      have e1 := h.home i _ (List.getElem?_eq_getElem hi) x hx
      have e2 := h.home j _ (List.getElem?_eq_getElem hj) y hy
      rw [e] at e1
      omega
  have nd : ∀ {A : List Prm}, Apart A → A.Nodup := fun hA => List.Pairwise.imp (fun hab e => hab (by rw [e])) hA
  refine (List.perm_ext_iff_of_nodup (nd hap) (nd (rise_apart hR))).2 fun o => ?_
  obtain ⟨E, hE⟩ := h.get hm o.key
  rw [mem_iff_look (rise_apart hR), h.same o.key E hE, ← mem_iff_look (h.apart _ E hE), List.mem_flatten]
  constructor
  · rintro ⟨l, hl, ho⟩
    obtain ⟨i, hi⟩ := List.getElem?_of_mem hl
    rw [h.home i l hi o ho] at hE
    rw [hE] at hi
    cases hi
    exact ho
  · intro ho
    exact ⟨E, List.mem_of_getElem? hE, ho⟩
theorem Split.short {m : Nat} {Es : List (List Prm)} {L : List Prm} (h : Split m Es L) (hm : 0 < m) (hR : Rise L) {i : Nat} {E : List Prm} (hE : Es[i]? = some E) : E.length ≤ L.length := by
  rw [← (h.perm hm hR).length_eq]
  exact (List.sublist_flatten_of_mem (List.mem_of_getElem? hE)).length_le
theorem Split.step {m : Nat} {Es : List (List Prm)} {L L' : List Prm} (h : Split m Es L) {k : ByteArray} {E' : List Prm} (ha : Apart E') (ht : ∀ o ∈ E', bkt m o.key = bkt m k)
    (h1 : ∀ a, a ≠ k → look L' a = look L a) (h2 : ∀ a E, Es[bkt m k]? = some E → a ≠ k → look E' a = look E a) (h3 : look L' k = look E' k) (hm : 0 < m) : Split m (Es.set (bkt m k) E') L' := by
  have hb : bkt m k < Es.length := by rw [h.len]; exact bkt_lt hm k
  refine ⟨by rw [List.length_set]; exact h.len, fun i E hE => ?_, fun i E hE o ho => ?_, fun a E hE => ?_⟩
  · rw [List.getElem?_set] at hE
    split at hE
    · cases hE; exact ha
    · exact h.apart i E hE
  · rw [List.getElem?_set] at hE
    split at hE
    · next e => cases hE; rw [← e]; exact ht o ho
    · exact h.home i E hE o ho
  · rw [List.getElem?_set] at hE
    by_cases hak : a = k
    · subst hak
      rw [if_pos rfl, if_pos hb] at hE
      cases hE
      exact h3
    · rw [h1 a hak]
      split at hE
      · next e =>
        cases hE
        obtain ⟨E0, hE0⟩ := h.get hm k
        rw [h2 a E0 hE0 hak]
        exact h.same a E0 (by rw [← e]; exact hE0)
      · exact h.same a E hE
theorem Split.put {m : Nat} {Es : List (List Prm)} {L : List Prm} (h : Split m Es L) (hm : 0 < m) {k : ByteArray} {E : List Prm} (hE : Es[bkt m k]? = some E) (x : ByteArray) : Split m (Es.set (bkt m k) (lputE E k x)) (putP ⟨k, x⟩ L) := by
  refine h.step (apart_putE (h.apart _ E hE) k x) (fun o ho => ?_) (fun a ha => ?_) (fun a E0 h0 ha => ?_) ?_ hm
  · rcases mem_putE ho with e | ho
    · rw [e]
    · exact h.home _ E hE o ho
  · rw [look_put, if_neg (fun e => ha e.symm)]
  · rw [hE] at h0
    cases h0
    rw [look_putE, if_neg (fun e => ha e.symm)]
  · rw [look_put, look_putE, if_pos rfl, if_pos rfl]
theorem Split.del {m : Nat} {Es : List (List Prm)} {L : List Prm} (h : Split m Es L) (hm : 0 < m) {k : ByteArray} {E : List Prm} (hE : Es[bkt m k]? = some E) : Split m (Es.set (bkt m k) (delE E k)) (delP L k) := by
  have hE' := h.apart _ E hE
  refine h.step (List.Pairwise.sublist (delE_sub E k) hE') (fun o ho => h.home _ E hE o ((delE_sub E k).subset ho)) (fun a ha => ?_) (fun a E0 h0 ha => ?_) ?_ hm
  · unfold delP
    rw [look_filter, if_neg (fun e => ha e.symm)]
  · rw [hE] at h0
    cases h0
    rw [look_delE hE', if_neg (fun e => ha e.symm)]
  · unfold delP
    rw [look_filter, look_delE hE', if_pos rfl, if_pos rfl]
theorem Split.find {m : Nat} {Es : List (List Prm)} {L : List Prm} (h : Split m Es L) {k : ByteArray} {E : List Prm} (hE : Es[bkt m k]? = some E) : findP E k = findP L k := by
  rw [findP_look, findP_look, h.same k E hE]
theorem Split.nil (m : Nat) : Split m (List.replicate m []) [] := by
  have e : ∀ i (E : List Prm), (List.replicate m ([] : List Prm))[i]? = some E → E = [] := fun i E hE => by
    have := List.mem_of_getElem? hE
    exact List.eq_of_mem_replicate this
  refine ⟨List.length_replicate, fun i E hE => ?_, fun i E hE o ho => ?_, fun k E hE => ?_⟩
  · rw [e i E hE]; exact List.Pairwise.nil
  · rw [e i E hE] at ho; cases ho
  · rw [e _ E hE]
end Go.Proofs.YthcdkggkoanjpaaGreatDoor
