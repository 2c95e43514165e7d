/- Tables of the code: Apply. Numbers and types by name. -/
import Derived.Test.YtabmjjicplomlaaTst
import Derived.Test.YtabmjjicplomlaaTge
import Derived.Test.YtabmjjicplomlaaPfr
/- Tables of the code: one op merged into a list by rising keys: plain facts. Numbers and types by name. -/
namespace Go.Proofs.Ytabmjjicplomlaa
open Go.RowKit Go.Lib Go.Sort

theorem kOf_kO (p : Prm) (o : Opm) (h : p.key = o.key) : kOf p = kO o := by rw [kOf_data, h]; rfl

/-- What one op leaves of what stands behind. -/
def upTo (R : List Prm) (o : Opm) : List Prm := R.take (lowP R o.key) ++ if o.del = true then [] else [⟨o.key, o.val⟩]
def past (R : List Prm) (o : Opm) : List Prm := R.drop (lowP R o.key + if hasP R o.key = true then 1 else 0)

theorem low_all {R : List Prm} {k : ByteArray} : ∀ x ∈ R.take (lowP R k), kOf x < k.data.toList := by
  intro x hx
  obtain ⟨t, ht, e⟩ := List.getElem_of_mem hx
  rw [List.length_take] at ht
  rw [List.getElem_take] at e
  rw [kOf_data]
  have h2 : t < R.length := by omega
  have h3 : R[t]? = some x := by rw [List.getElem?_eq_getElem h2, e]
  exact low_lt (t := t) (by omega) h3

theorem past_all {R : List Prm} {o : Opm} (hR : Rise R) : ∀ x ∈ past R o, kO o < kOf x := by
  intro x hx
  unfold past at hx
  obtain ⟨t, ht, e⟩ := List.getElem_of_mem hx
  rw [List.length_drop] at ht
  rw [List.getElem_drop] at e
  obtain ⟨i, hi⟩ : ∃ i, lowP R o.key + (if hasP R o.key = true then 1 else 0) + t = i := ⟨_, rfl⟩
  have hx2 : R[i]? = some x := by
    have hlt : i < R.length := by
      generalize (if hasP R o.key = true then 1 else 0) = c at hi ht
      omega
    simp only [hi] at e
    rw [List.getElem?_eq_getElem hlt]
    exact congrArg some e
  obtain ⟨r1, r2⟩ := rise_has (k := o.key) hR
  by_cases hh : hasP R o.key = true
  · obtain ⟨z, hz, hk, _⟩ := r1 hh
    rw [if_pos hh] at hi
    have := rise_at hR (show lowP R o.key < i by omega) hz hx2
    rw [kOf_kO z o hk] at this
    exact this
  · have hne := r2 (by simpa using hh) x (List.mem_of_getElem? hx2)
    rw [if_neg hh] at hi
    have hnl : ¬ kOf x < kO o := by
      rcases Nat.eq_or_lt_of_le (show lowP R o.key ≤ i by omega) with h | h
      · rw [← h] at hx2
        rw [kOf_data]
        exact low_not hx2
      · obtain ⟨y, hy⟩ : ∃ y, R[lowP R o.key]? = some y := ⟨_, List.getElem?_eq_getElem (by have := (List.getElem?_eq_some_iff.1 hx2).1; omega)⟩
        have h1 := rise_at hR h hy hx2
        have h2 := low_not hy
        intro h3
        rw [kOf_data] at h1
        exact h2 (List.lt_trans h1 h3)
    refine Decidable.byContradiction fun h3 => hne (text_inj' ?_)
    have := key_tri hnl h3
    rw [kOf_data] at this
    rw [ByteArray.toList_eq, ByteArray.toList_eq]
    exact this

theorem look_append (X Y : List Prm) (k : ByteArray) : look (X ++ Y) k = match look X k with | some v => some v | none => look Y k := by
  unfold look
  rw [List.find?_append]
  cases X.find? fun o => decide (o.key = k) <;> rfl
theorem look_lt {X : List Prm} {k : ByteArray} (h : ∀ x ∈ X, kOf x < k.data.toList) : look X k = none := look_none fun z hz e => by
  have := h z hz
  rw [kOf_data, e] at this
  exact List.lt_irrefl _ this

theorem merge_step {A R : List Prm} {o : Opm} (h : Rise (A ++ R)) (hA : ∀ x ∈ A, kOf x < kO o) : stepP (A ++ R) o = A ++ upTo R o ++ past R o := by
  have hR : Rise R := (List.pairwise_append.1 h).2.1
  have hcut : R = R.take (lowP R o.key) ++ R.drop (lowP R o.key) := (List.take_append_drop _ _).symm
  refine ext_rise (rise_step h o) ?_ fun k => ?_
  · have hAR := (List.pairwise_append.1 h).2.2
    have hp := past_all (o := o) hR
    have hl := low_all (R := R) (k := o.key)
    have hu : ∀ x ∈ upTo R o, ¬ kO o < kOf x ∧ (∀ y, kO o < kOf y → kOf x < kOf y) := by
      intro x hx
      unfold upTo at hx
      rcases List.mem_append.1 hx with hx | hx
      · have := hl x hx
        exact ⟨fun h2 => List.lt_irrefl _ (List.lt_trans h2 this), fun y hy => List.lt_trans this hy⟩
      · split at hx
        · cases hx
        · obtain rfl : x = ⟨o.key, o.val⟩ := by simpa using hx
          rw [kOf_kO ⟨o.key, o.val⟩ o rfl]
          exact ⟨List.lt_irrefl _, fun y hy => hy⟩
    have hAu : ∀ x ∈ A, ∀ y ∈ upTo R o, kOf x < kOf y := by
      intro x hx y hy
      unfold upTo at hy
      rcases List.mem_append.1 hy with hy | hy
      · exact hAR x hx y (List.mem_of_mem_take hy)
      · split at hy
        · cases hy
        · obtain rfl : y = ⟨o.key, o.val⟩ := by simpa using hy
          rw [kOf_kO ⟨o.key, o.val⟩ o rfl]
          exact hA x hx
    have hup : Rise (upTo R o) := by
      unfold upTo
      refine List.pairwise_append.2 ⟨List.Pairwise.sublist (List.take_sublist _ _) hR, ?_, fun x hx y hy => ?_⟩
      · split
        · exact List.Pairwise.nil
        · exact List.pairwise_singleton ..
      · split at hy
        · cases hy
        · obtain rfl : y = ⟨o.key, o.val⟩ := by simpa using hy
          rw [kOf_kO ⟨o.key, o.val⟩ o rfl]
          exact hl x hx
    refine List.pairwise_append.2 ⟨List.pairwise_append.2 ⟨(List.pairwise_append.1 h).1, hup, hAu⟩, List.Pairwise.sublist (List.drop_sublist _ _) hR, fun x hx y hy => ?_⟩
    rcases List.mem_append.1 hx with hx | hx
    · exact List.lt_trans (hA x hx) (hp y hy)
    · exact (hu x hx).2 y (hp y hy)
  · rw [look_step, look_append A R, List.append_assoc, look_append A, upTo, List.append_assoc]
    unfold opAt
    by_cases hk : o.key = k
    · subst hk
      rw [if_pos rfl, look_lt hA, look_append, look_lt low_all, look_append]
      have hp : look (past R o) o.key = none := look_none fun z hz e => by
        have := past_all hR z hz
        rw [kOf_kO z o e] at this
        exact List.lt_irrefl _ this
      by_cases hd : o.del = true
      · rw [if_pos hd, if_pos hd]
        exact hp.symm
      · rw [if_neg hd, if_neg hd, look_cons, if_pos rfl]
    · rw [if_neg hk]
      cases look A k with
      | some v => rfl
      | none =>
        have hn : look (if o.del = true then [] else [(⟨o.key, o.val⟩ : Prm)]) k = none := by
          split
          · rfl
          · rw [look_cons, if_neg hk]; rfl
        have hd : look (R.drop (lowP R o.key)) k = look (past R o) k := by
          unfold past
          by_cases hh : hasP R o.key = true
          · obtain ⟨z, hz, hzk, _⟩ := (rise_has (k := o.key) hR).1 hh
            rw [if_pos hh, ← List.getElem_cons_drop (h := (List.getElem?_eq_some_iff.1 hz).1), (List.getElem?_eq_some_iff.1 hz).2, look_cons, if_neg (by rw [hzk]; exact hk)]
          · rw [if_neg hh]; rfl
        rw [look_append (R.take _), look_append (if o.del = true then [] else _), hn]
        conv => lhs; rw [hcut, look_append]
        rw [hd]

end Go.Proofs.Ytabmjjicplomlaa

namespace Go.Proofs.Ytabmjjicplomlaa
open Go.RowKit Go.Lib Go.Sort

/-- What Apply leaves. -/
def Applied (L : List Prm) (O : List Opm) (w : World) (e : Ending) (w' : World) : Prop :=
  ∃ ao q c, e = .returned (.slice ao q c) ∧ Prr w' (.slice ao q c) q (applyP L O) ∧ Below w.heap.size w w'

theorem base_sets (L : List Prm) (O : List Opm) : applyP [] (setsOf L ++ O) = applyP L O := by
  unfold applyP baseP
  rw [List.foldl_append]
  congr 1
  unfold setsOf
  rw [List.foldl_map]
  rfl
theorem mem_ops {z : Prm} {O : List Opm} {l : List Prm} (h : z ∈ O.foldl stepP l) : z ∈ l ∨ ∃ o ∈ O, z = ⟨o.key, o.val⟩ := by
  induction O generalizing l with
  | nil => exact .inl h
  | cons o O ih =>
    rcases ih h with h | ⟨o', ho', e⟩
    · unfold stepP at h
      split at h
      · exact .inl ((List.mem_filter.1 h).1)
      · rcases mem_put h with rfl | h
        · exact .inr ⟨o, by simp, rfl⟩
        · exact .inl h
    · exact .inr ⟨o', by simp [ho'], e⟩
theorem apply_sizes {L : List Prm} {O : List Opm} (hL : ∀ o ∈ L, o.key.size ≤ maxLen ∧ o.val.size ≤ maxLen) (hO : ∀ o ∈ O, o.key.size ≤ maxLen ∧ o.val.size ≤ maxLen) : ∀ z ∈ applyP L O, z.key.size ≤ maxLen ∧ z.val.size ≤ maxLen := by
  intro z hz
  rcases mem_ops hz with h | ⟨o, ho, rfl⟩
  · exact hL z (mem_base h)
  · exact hO o ho
theorem apply_lasts {L : List Prm} {O K : List Opm} (h : ∀ k d, lastO K k d = lastO O k d) : applyP L K = applyP L O :=
  ext_rise (rise_apply L K) (rise_apply L O) fun k => by rw [look_apply, look_apply, h]

theorem pvs_one (A : List Prm) : ∀ u ∈ pvs A, u.oneCell' = true := by
  intro u hu
  obtain ⟨o, _, ho⟩ := List.mem_flatMap.1 hu
  exact pv_one o u ho
theorem pvs_app (A B : List Prm) : pvs (A ++ B) = pvs A ++ pvs B := by simp [pvs]
/-- Cells of pairs that begin a list, or end it. -/
theorem Prr.take {w : World} {ao : Option Addr} {n c j : Nat} {L : List Prm} (h : Prr w (.slice ao n c) n L) (hj : j ≤ n) : Cells w (.slice ao j c) 2 j (pvs (L.take j)) := by
  obtain ⟨h1, _, ⟨ao', c', e, h0, hnc, hn, hc⟩, _⟩ := h
  simp only [Value.slice.injEq] at e
  obtain ⟨rfl, _, rfl⟩ := e
  refine ⟨ao, c, rfl, by rw [pvs_length, List.length_take]; omega, by omega, fun e => by have := hn e; omega, fun a ha i u hu => hc a ha i u ?_⟩
  have e : pvs L = pvs (L.take j) ++ pvs (L.drop j) := by rw [← pvs_app, List.take_append_drop]
  rw [e, List.getElem?_append_left (List.getElem?_eq_some_iff.1 hu).1]
  exact hu
theorem Prr.drop {w : World} {ao : Option Addr} {n c j : Nat} {L : List Prm} (h : Prr w (.slice ao n c) n L) (hj : j ≤ n) : ∃ ao', (∀ a, ao = some a → ao' = (if c = j then some a else some (a.add (j * 2)))) ∧ (ao = none → ao' = none) ∧ Prr w (.slice ao' (n - j) (c - j)) (n - j) (L.drop j) := by
  obtain ⟨h1, h2, ⟨ao0, c0, e, h0, hnc, hn, hc⟩, h4⟩ := h
  simp only [Value.slice.injEq] at e
  obtain ⟨rfl, _, rfl⟩ := e
  have h4' : ∀ o ∈ L.drop j, o.key.size ≤ maxLen ∧ o.val.size ≤ maxLen := fun o ho => h4 o (List.mem_of_mem_drop ho)
  cases ao with
  | none =>
    obtain ⟨rfl, rfl⟩ := hn rfl
    exact ⟨none, fun a h => (by cases h), fun _ => rfl, by simp; omega, by omega, ⟨none, 0 - j, rfl, by rw [pvs_length]; simp; omega, by omega, fun _ => ⟨by omega, by omega⟩, fun a h => (by cases h)⟩, h4'⟩
  | some a =>
    refine ⟨if c = j then some a else some (a.add (j * 2)), fun b hb => (by cases hb; rfl), fun h => (by cases h), by rw [List.length_drop]; omega, by omega, ⟨_, c - j, rfl, by rw [pvs_length, List.length_drop]; omega, by omega, fun h => (by split at h <;> cases h), fun b hb i u hu => ?_⟩, h4'⟩
    have hlt := (List.getElem?_eq_some_iff.1 hu).1
    rw [pvs_length, List.length_drop] at hlt
    rw [if_neg (by omega)] at hb
    cases hb
    rw [Addr.add_add]
    refine hc a rfl (j * 2 + i) u ?_
    have e : pvs L = pvs (L.take j) ++ pvs (L.drop j) := by rw [← pvs_app, List.take_append_drop]
    have el : (pvs (L.take j)).length = j * 2 := by rw [pvs_length, List.length_take]; omega
    rw [e, List.getElem?_append_right (by omega), el, Nat.add_sub_cancel_left]
    exact hu

theorem Opr.own {w : World} {base : Nat} {v : Value} {n : Nat} {L : List Opm} (h : w.ownsRow base 45 3 v n (ovs L)) (hn : n = L.length) (hm : n ≤ maxLen) (hs : ∀ o ∈ L, o.key.size ≤ maxLen ∧ o.val.size ≤ maxLen) : Opr w v n L := ⟨hn, hm, Cells.own h (by decide), hs⟩
theorem sets_sizes {L : List Prm} (h : ∀ o ∈ L, o.key.size ≤ maxLen ∧ o.val.size ≤ maxLen) : ∀ o ∈ setsOf L, o.key.size ≤ maxLen ∧ o.val.size ≤ maxLen := by
  intro o ho
  obtain ⟨p, hp, rfl⟩ := List.mem_map.1 ho
  exact h p hp
theorem lops_two {w : World} {v1 v2 : Value} {n m : Nat} {A B : List Opm} (fr : Nat × Nat) (t : TypeId) (h1 : Opr w v1 n A) (h2 : Opr w v2 m B) : Lops (w.alloc (.cells #[v1, v2] t fr)) (.slice (some ⟨w.heap.size, 0, none⟩) 2 2) 2 [A, B] := by
  have hg : Grow w (w.alloc (.cells #[v1, v2] t fr)) := (Below.refl w.heap.size w).alloc (Nat.le_refl _) _
  refine ⟨rfl, [v1, v2], Reads.lit w [v1, v2] t fr 2 rfl, rfl, fun k u hu => ?_⟩
  match k, hu with
  | 0, hu => simp at hu; subst hu; exact ⟨n, A, rfl, h1.later hg⟩
  | 1, hu => simp at hu; subst hu; exact ⟨m, B, rfl, h2.later hg⟩

/-- An append to the pairs' row leaves the ops' row, and a box, as they were. -/
theorem app_keep {W w6 : World} {base bx ra q : Nat} {va vk : Value} {xs ys : List Value} {cs : Array Value} (hown : W.ownsRow base 48 2 va ra xs) (hk : W.ownsRow base 45 3 vk q ys) (hbx : W.heap[bx]? = some (.cells cs 45 (0, 0)))
    (hg : W.grownBy w6 va.ownBlock) : w6.ownsRow base 45 3 vk q ys ∧ w6.heap[bx]? = some (.cells cs 45 (0, 0)) := by
  refine ⟨owns_grown hk hg (fun g h1 h2 => owns_apart hk hown (by decide) g h1 h2), ?_⟩
  rw [hg.block bx (Array.getElem?_eq_some_iff.1 hbx).1 ?_]
  · exact hbx
  · intro e
    rcases hown.2 with ⟨rfl, _⟩ | ⟨g, cap, cur, rfl, _, hgp, _⟩
    · cases e
    · have : g = bx := (Option.some.inj e).symm
      subst this
      rw [hbx] at hgp
      simp only [Option.some.injEq, Obj.cells.injEq] at hgp
      exact absurd hgp.2.1 (by decide)
theorem own_below {w w' : World} {base e size n : Nat} {v : Value} {xs : List Value} (h : w.ownsRow base e size v n xs) (hb : Below w.heap.size w w') : w'.ownsRow base e size v n xs := by
  rcases h.2 with h2 | ⟨g, cap, cur, h3, h4, hg, hr⟩
  · exact ⟨h.1, .inl h2⟩
  · exact ⟨h.1, .inr ⟨g, cap, cur, h3, h4, (hb.block g (Array.getElem?_eq_some_iff.1 hg).1).trans hg, hr⟩⟩

theorem ap_next {L0 : List Prm} {K : List Opm} {i : Nat} {A R : List Prm} {o : Opm} (hd : A ++ R = applyP L0 (K.take i)) (low : ∀ x ∈ A, ∀ o ∈ K.drop i, kOf x < kO o) (hRA : Rise (A ++ R)) (ho : K[i]? = some o) (hK : KRise K) :
    (A ++ upTo R o) ++ past R o = applyP L0 (K.take (i + 1)) ∧ ∀ x ∈ A ++ upTo R o, ∀ o' ∈ K.drop (i + 1), kOf x < kO o' := by
  have hmem : K.drop i = o :: K.drop (i + 1) := by rw [← List.getElem_cons_drop (h := (List.getElem?_eq_some_iff.1 ho).1), (List.getElem?_eq_some_iff.1 ho).2]
  have hA : ∀ x ∈ A, kOf x < kO o := fun x hx => low x hx o (by rw [hmem]; simp)
  refine ⟨by rw [← merge_step hRA hA, hd, applyP_next ho], fun x hx o' ho' => ?_⟩
  have hoo : kO o < kO o' := by
    have h1 : KRise (o :: K.drop (i + 1)) := by rw [← hmem]; exact List.Pairwise.sublist (List.drop_sublist _ _) hK
    exact (List.pairwise_cons.1 h1).1 o' ho'
  rcases List.mem_append.1 hx with hx | hx
  · exact List.lt_trans (hA x hx) hoo
  · unfold upTo at hx
    rcases List.mem_append.1 hx with hx | hx
    · exact List.lt_trans (low_all x hx) hoo
    · split at hx
      · cases hx
      · obtain rfl : x = ⟨o.key, o.val⟩ := by simpa using hx
        rw [kOf_kO ⟨o.key, o.val⟩ o rfl]
        exact hoo

/-- The state of Apply's loop. -/
structure ApAt (w : World) (L0 : List Prm) (K : List Opm) (i : Nat) (wr : World) (al : Option Addr) (nl cl : Nat) (aa : Option Addr) (ra ca : Nat) (ak : Option Addr) (q ck : Nat) (A R : List Prm) : Prop where
  rest : Prr w (.slice al nl cl) nl R
  own : wr.ownsRow w.heap.size 48 2 (.slice aa ra ca) ra (pvs A)
  len : ra = A.length
  ops : wr.ownsRow w.heap.size 45 3 (.slice ak q ck) q (ovs K)
  below : Below w.heap.size w wr
  done : A ++ R = applyP L0 (K.take i)
  low : ∀ x ∈ A, ∀ o ∈ K.drop i, kOf x < kO o

set_option maxRecDepth 100000 in
set_option maxHeartbeats 16000000 in
theorem tapply_any (v vo : Value) (n m : Nat) (L : List Prm) (O : List Opm) (w : World) (hr : Prr w v n L) (ho : Opr w vo m O) (hn : n ≤ 100000) (hm : m ≤ 100000) :
    Calls Try.prog 20 #[v, vo] w (Applied L O w) := by
  have T := tright_any v n L w hr
  obtain ⟨ao, c, rfl⟩ := hr.shape
  obtain ⟨aO, cO, rfl⟩ := ho.shape
  have HR := Lib.hid (And.intro hr ho)
  clear hr ho
  by_cases hR : Rise L
  case' pos =>
    rw [decide_eq_true hR] at T
    have T := Lib.hid T
    have HRL := Lib.hid hR
    clear hR
    go_enter Try.func20, Try.ntmps20
    go_wp2_with (go_at_call 17; refine T.out.mono ?_; rintro e w1 ⟨rfl, hb1⟩; have HK := Lib.hid (last_ops _ m O w1 (HR.out.2.later hb1) (Lib.hid (by omega))); have HB1 := Lib.hid hb1; clear hb1)
    obtain ⟨L0, hL0⟩ : ∃ X, X = L := ⟨_, rfl⟩
    obtain ⟨O0, hO0⟩ : ∃ X, X = O := ⟨_, rfl⟩
    have HP0 : Hid (Rise L0 ∧ Prr w (.slice ao n c) n L0 ∧ applyP L0 O0 = applyP L O ∧ n ≤ 100000 ∧ O0.length ≤ 200000 ∧ (∀ o ∈ O0, o.key.size ≤ maxLen ∧ o.val.size ≤ maxLen) ∧ Below w.heap.size w w1) := Lib.hid ⟨by rw [hL0]; exact HRL.out, by rw [hL0]; exact HR.out.1, by rw [hL0, hO0], hn, by rw [hO0]; have := HR.out.2.1; omega, by rw [hO0]; exact HR.out.2.2.2.2, HB1.out⟩
    rw [← hO0] at HK
    clear hL0 hO0 HB1 HRL T
  case' neg =>
    rw [decide_eq_false hR] at T
    have T := Lib.hid T
    clear hR
    go_enter Try.func20, Try.ntmps20
    go_wp2_with (go_at_call 17; refine T.out.mono ?_; rintro e w2 ⟨rfl, hb2⟩; have ST := Lib.hid (sets_any _ n L w2 (HR.out.1.later hb2) (Lib.hid (by omega))); have HB2 := Lib.hid hb2; clear hb2)
    go_wp2_with (go_at_call 33; refine ST.out.mono ?_; rintro e w3 ⟨a3, q3, c3, rfl, hq3, hown3, hb3⟩; have HS := Lib.hid (And.intro hq3 (And.intro hown3 hb3)); clear hq3 hown3 hb3 ST)
    have HB3 := HB2.out.trans (HS.out.2.2.mono HB2.out.size)
    have CC := concat_ops _ 2 [setsOf L, O] _ (lops_two (0, 0) 23 (Opr.own HS.out.2.1 (by rw [HS.out.1]; simp [setsOf]) (by unfold maxLen; have := HS.out.1; have := HR.out.1.1; omega) (sets_sizes HR.out.1.2.2.2)) (HR.out.2.later HB3)) (Lib.hid ⟨by omega, by have := HR.out.1.1; have := HR.out.2.1; simp [setsOf]; omega⟩)
    obtain ⟨T1, hT1⟩ : ∃ T, [setsOf L, O].flatten.length = T := ⟨_, rfl⟩
    have hfl : [setsOf L, O].flatten = setsOf L ++ O := by simp
    rw [hT1, hfl] at CC
    rw [hfl] at hT1
    have HT1 := Lib.hid hT1
    have HB4 := Lib.hid (HB3.alloc HB3.size (.cells #[.slice a3 q3 c3, .slice aO m cO] 23))
    have CC := Lib.hid CC
    clear HB3 hT1 hfl
    go_wp2_with (go_at_call 32; refine CC.out.mono ?_; rintro e w1 ⟨a4, c4, rfl, hown4, hb4⟩; have HC := Lib.hid (And.intro hown4 hb4); clear hown4 hb4 CC)
    obtain ⟨L0, hL0⟩ : ∃ X : List Prm, X = [] := ⟨_, rfl⟩
    obtain ⟨O0, hO0⟩ : ∃ X, X = setsOf L ++ O := ⟨_, rfl⟩
    have hOs : ∀ o ∈ O0, o.key.size ≤ maxLen ∧ o.val.size ≤ maxLen := by
      rw [hO0]
      intro o ho
      rcases List.mem_append.1 ho with h | h
      · exact sets_sizes HR.out.1.2.2.2 o h
      · exact HR.out.2.2.2.2 o h
    have hTl : T1 = O0.length := by rw [hO0]; exact HT1.out.symm
    have hTb : T1 ≤ 200000 := by rw [hTl, hO0]; have := HR.out.1.1; have := HR.out.2.1; simp [setsOf]; omega
    have HP0 : Hid (Rise L0 ∧ Prr w (.slice none 0 0) 0 L0 ∧ applyP L0 O0 = applyP L O ∧ 0 ≤ 100000 ∧ O0.length ≤ 200000 ∧ (∀ o ∈ O0, o.key.size ≤ maxLen ∧ o.val.size ≤ maxLen) ∧ Below w.heap.size w w1) := Lib.hid ⟨by rw [hL0]; exact List.Pairwise.nil, by rw [hL0]; exact Prr.nil w, by rw [hL0, hO0]; exact base_sets L O, by omega, by rw [← hTl]; exact hTb, hOs, HB4.out.trans (HC.out.2.mono HB4.out.size)⟩
    have HK := Lib.hid (last_ops (.slice a4 T1 c4) T1 O0 w1 (Opr.own (by rw [hO0]; exact HC.out.1) hTl (by unfold maxLen; omega) hOs) (Lib.hid (by omega)))
    clear hL0 hO0 hOs hTl hTb HC HT1 HB4 HS HB2 T
  all_goals
    go_wp2_with (go_at_call 34; refine HK.out.mono ?_; rintro e w2 ⟨ak, q, ck, rfl, K, hq, hownK, hKr, hKl, hKm, hKn, hbK⟩; have HKK := Lib.hid (And.intro hq (And.intro hownK (And.intro hKr (And.intro hKl (And.intro hKm hbK))))); have hKlen : q ≤ 200000 := (by have := HP0.out.2.2.2.2.1; omega); clear hq hownK hKr hKl hKm hKn hbK HK)
    go_loopw [21, 0, 5] (fun i lv av wr => ∃ (i1 nl cl ra ca : Nat) (al aa : Option Addr), i = .int .i64 (i1 : Int) ∧ i1 ≤ q ∧ lv = .slice al nl cl ∧ av = .slice aa ra ca ∧ Hid (∃ A R, ApAt w L0 K i1 wr al nl cl aa ra ca ak q ck A R))
      (fun i _ _ _ => q - (RowKit.intOf i).toNat)
    case atStart =>
      obtain ⟨p1, p2, p3, p4, p5, p6, p7⟩ := HP0.out
      obtain ⟨k1, k2, k3, k4, k5, k6⟩ := HKK.out
      refine ⟨0, _, _, 0, 0, _, none, rfl, Nat.zero_le _, rfl, rfl, Lib.hid ⟨[], L0, p2, World.ownsRow_nil _ _ _ _, rfl, owns_base k2 p7.size, p7.trans (k6.mono p7.size), ?_, fun x hx => by cases hx⟩⟩
      rw [List.take_zero]
      show [] ++ L0 = baseP L0
      rw [base_rise p1]; rfl
    case round =>
      obtain ⟨i1, nl, cl, ra, ca, al, aa, rfl, hi, rfl, rfl, hs⟩ := hrel
      obtain ⟨A, R, st⟩ := hs.out
      by_cases hlt : i1 < q
      · have h3 : (i1 : Int) < (q : Int) := by omega
        obtain ⟨g, rfl⟩ : ∃ g, ak = some ⟨g, 0, none⟩ := by
          rcases st.ops.2 with ⟨_, h0⟩ | ⟨g, cap, cur, hv, _⟩
          · omega
          · simp only [Value.slice.injEq] at hv
            exact ⟨g, hv.1⟩
        obtain ⟨o, ho⟩ : ∃ o, K[i1]? = some o := ⟨_, List.getElem?_eq_getElem (by have := HKK.out.1; omega)⟩
        have k0 := ovs_at ho 0 (by omega)
        have k1 := ovs_at ho 1 (by omega)
        have k2 := ovs_at ho 2 (by omega)
        rw [Nat.add_zero] at k0
        obtain ⟨c0, _, _⟩ := row_cellE st.ops (k0.trans rfl)
        obtain ⟨c1, _, _⟩ := row_cellE st.ops (k1.trans rfl)
        obtain ⟨c2, _, _⟩ := row_cellE st.ops (k2.trans rfl)
        clear k0 k1 k2
        have BX := heap_alloc_new wr (.cells #[.bool o.del, .string o.key, .string o.val] 45)
        have b1 := cells_of BX 1 (.string o.key) rfl
        have hRA : Rise (A ++ R) := by rw [st.done]; exact rise_apply _ _
        have hRr : Rise R := (List.pairwise_append.1 hRA).2.1
        have hnl : nl ≤ 300000 := by
          have e := congrArg List.length st.done
          have := applyP_length L0 K i1
          have := st.rest.1
          have := HP0.out.2.1.1
          have := HP0.out.2.2.2.1
          rw [List.length_append] at e
          omega
        have hra : ra ≤ 300000 := by
          have e := congrArg List.length st.done
          have := applyP_length L0 K i1
          have := st.len
          have := HP0.out.2.1.1
          have := HP0.out.2.2.2.1
          rw [List.length_append] at e
          omega
        have HBW := st.below.trans ((Below.refl w.heap.size wr).alloc st.below.size (.cells #[.bool o.del, .string o.key, .string o.val] 45))
        have HS := Lib.hid (search_pairs (.slice al nl cl) nl R o.key _ (st.rest.later HBW) hRr (by omega))
        have HQ := Lib.hid (And.intro ho (And.intro st.done (And.intro st.low (And.intro st.rest (And.intro st.len (And.intro hRA (And.intro hi hlt)))))))
        have HW := Lib.hid (And.intro (own_alloc st.own (.cells #[.bool o.del, .string o.key, .string o.val] 45)) (And.intro (own_alloc st.ops (.cells #[.bool o.del, .string o.key, .string o.val] 45)) (And.intro BX HBW)))
        obtain ⟨lo, hlo⟩ : ∃ lo, lowP R o.key = lo := ⟨_, rfl⟩
        obtain ⟨ha, hha⟩ : ∃ ha, hasP R o.key = ha := ⟨_, rfl⟩
        have hlon : lo ≤ nl := by rw [← hlo, st.rest.1]; exact lowP_le _ _
        have hacl : nl ≤ cl := by
          obtain ⟨_, _, ⟨a0, c0, e, _, h5, _⟩, _⟩ := st.rest
          simp only [Value.slice.injEq] at e
          rw [e.2.2]; exact h5
        have HLH := Lib.hid (And.intro hlo hha)
        unfold FoundP at HS
        rw [hlo, hha] at HS
        clear st hs ho hRA hRr HBW BX hlo hha hi hlt
        cases al with
        | none =>
          obtain ⟨rfl, rfl⟩ : nl = 0 ∧ cl = 0 := by
            obtain ⟨_, _, ⟨a0, c0, e, _, _, h6, _⟩, _⟩ := HQ.out.2.2.2.1
            simp only [Value.slice.injEq] at e
            have := h6 e.1.symm
            exact ⟨this.1, by rw [e.2.2]; exact this.2⟩
          obtain rfl : lo = 0 := by omega
          have hR0 : R = [] := List.eq_nil_of_length_eq_zero HQ.out.2.2.2.1.1.symm
          have hha : ha = false := by have := HLH.out.2; rw [hR0] at this; rw [← this]; rfl
          subst hha
          have hrn : Prr w (.slice none 0 0) 0 (R.drop 0) := HQ.out.2.2.2.1
          clear hR0
          cases hd : o.del with
          | true =>
            rw [hd] at c0 HS HW
            have HZ := Lib.hid hrn
            clear hrn
            have HM1 : Hid (ra + 0 ≤ 1000000) := Lib.hid (by omega)
            go_wp2_with (first | (go_at_call 35; refine HS.out.mono ?_; rintro e w4 ⟨rfl, hb4⟩; have H4 := Lib.hid (And.intro (own_below HW.out.1 hb4) (And.intro (own_below HW.out.2.1 hb4) (And.intro ((hb4.block _ (Array.getElem?_eq_some_iff.1 HW.out.2.2.1).1).trans HW.out.2.2.1) (And.intro (HW.out.2.2.2.trans (hb4.mono HW.out.2.2.2.size)) ((HQ.out.2.2.2.1.take hlon).later (HW.out.2.2.2.trans (hb4.mono HW.out.2.2.2.size))))))); clear hb4) | (at_builtin; refine wpList_append_gen elemPair rfl (.tmp 32) (.tmp 35) rfl w.heap.size _ ra _ rfl H4.out.1 _ 0 _ rfl H4.out.2.2.2.2 (pvs_one _) (ra + 0) rfl HM1 (by decide) H4.out.2.2.2.1.size ?_; intro ao5 c5 w5 hown5 hb5 hg5 ho5; have H5 := Lib.hid (And.intro hown5 (And.intro (app_keep H4.out.1 H4.out.2.1 H4.out.2.2.1 hg5).1 (And.intro (app_keep H4.out.1 H4.out.2.1 H4.out.2.2.1 hg5).2 (H4.out.2.2.2.1.trans hb5)))); have d0 := cells_of H5.out.2.2.1 0 _ rfl; have d1 := cells_of H5.out.2.2.1 1 _ rfl; have d2 := cells_of H5.out.2.2.1 2 _ rfl; clear hown5 hb5 hg5 ho5 b1))
            obtain ⟨ho, hdone, hlow, hrest, hlen, hRA, hi, hlt⟩ := HQ.out
            obtain ⟨hlo, hha⟩ := HLH.out
            obtain ⟨n1, n2⟩ := ap_next hdone hlow hRA ho HKK.out.2.2.1
            have eu : upTo R o = R.take 0 ++ [] := by unfold upTo; rw [hlo, hd]; rfl
            have ep : past R o = R.drop 0 := by unfold past; rw [hlo, hha]; rfl
            refine ⟨⟨i1 + 1, 0, 0, ra + 0, c5, none, ao5, by simp, by omega, by first | rfl | simp | (congr 1; omega), rfl, Lib.hid ⟨A ++ upTo R o, past R o, ⟨by rw [ep]; exact HZ.out, by have := H5.out.1; rw [eu, List.append_nil, pvs_app]; exact this, by rw [eu, hlen]; simp, H5.out.2.1, H5.out.2.2.2, n1, n2⟩⟩⟩, by simp only [RowKit.intOf]; omega⟩
          | false =>
            rw [hd] at c0 HS HW
            have HZ := Lib.hid hrn
            clear hrn
            have HM1 : Hid (ra + 0 ≤ 1000000) := Lib.hid (by omega)
            have HM2 : Hid (ra + 0 + 1 ≤ 1000000) := Lib.hid (by omega)
            go_wp2_with (first | (go_at_call 35; refine HS.out.mono ?_; rintro e w4 ⟨rfl, hb4⟩; have H4 := Lib.hid (And.intro (own_below HW.out.1 hb4) (And.intro (own_below HW.out.2.1 hb4) (And.intro ((hb4.block _ (Array.getElem?_eq_some_iff.1 HW.out.2.2.1).1).trans HW.out.2.2.1) (And.intro (HW.out.2.2.2.trans (hb4.mono HW.out.2.2.2.size)) ((HQ.out.2.2.2.1.take hlon).later (HW.out.2.2.2.trans (hb4.mono HW.out.2.2.2.size))))))); clear hb4) | (at_builtin; refine wpList_append_gen elemPair rfl (.tmp 32) (.tmp 35) rfl w.heap.size _ ra _ rfl H4.out.1 _ 0 _ rfl H4.out.2.2.2.2 (pvs_one _) (ra + 0) rfl HM1 (by decide) H4.out.2.2.2.1.size ?_; intro ao5 c5 w5 hown5 hb5 hg5 ho5; have H5 := Lib.hid (And.intro hown5 (And.intro (app_keep H4.out.1 H4.out.2.1 H4.out.2.2.1 hg5).1 (And.intro (app_keep H4.out.1 H4.out.2.1 H4.out.2.2.1 hg5).2 (H4.out.2.2.2.1.trans hb5)))); have d0 := cells_of H5.out.2.2.1 0 _ rfl; have d1 := cells_of H5.out.2.2.1 1 _ rfl; have d2 := cells_of H5.out.2.2.1 2 _ rfl; clear hown5 hb5 hg5 ho5 b1) | (at_builtin; refine wpList_append_gen elemPair rfl (.tmp 40) (.tmp 46) rfl w.heap.size _ (ra + 0) _ rfl (own_alloc H5.out.1 _) _ 1 (pv ⟨o.key, o.val⟩) rfl (Cells.lit _ (pv ⟨o.key, o.val⟩) 48 (0, 0) 2 1 rfl) (pv_one _) (ra + 0 + 1) rfl HM2 (by decide) (by have := H5.out.2.2.2.size; simp; omega) ?_; intro ao6 c6 w6 hown6 hb6 hg6 ho6; have H6 := Lib.hid (And.intro hown6 (And.intro (app_keep (own_alloc H5.out.1 _) (own_alloc H5.out.2.1 _) ((Below.heap_alloc _ _ _ (Array.getElem?_eq_some_iff.1 H5.out.2.2.1).1).trans H5.out.2.2.1) hg6).1 ((H5.out.2.2.2.alloc H5.out.2.2.2.size _).trans hb6))); clear hown6 hb6 hg6 ho6 d0 d1 d2))
            obtain ⟨ho, hdone, hlow, hrest, hlen, hRA, hi, hlt⟩ := HQ.out
            obtain ⟨hlo, hha⟩ := HLH.out
            obtain ⟨n1, n2⟩ := ap_next hdone hlow hRA ho HKK.out.2.2.1
            have eu : upTo R o = R.take 0 ++ [⟨o.key, o.val⟩] := by unfold upTo; rw [hlo, hd]; rfl
            have ep : past R o = R.drop 0 := by unfold past; rw [hlo, hha]; rfl
            refine ⟨⟨i1 + 1, 0, 0, ra + 0 + 1, c6, none, ao6, by simp, by omega, by first | rfl | simp | (congr 1; omega), rfl, Lib.hid ⟨A ++ upTo R o, past R o, ⟨by rw [ep]; exact HZ.out, by have := H6.out.1; rw [eu, pvs_app, pvs_app, ← List.append_assoc]; simpa [pvs] using this, by rw [eu, hlen]; simp, H6.out.2.1, H6.out.2.2, n1, n2⟩⟩⟩, by simp only [RowKit.intOf]; omega⟩
        | some a =>
          cases ha with
          | true =>
            cases hd : o.del with
            | true =>
              rw [hd] at c0 HS HW
              have hln : lo < nl := by
                have hh := HLH.out
                obtain ⟨z, hz, _⟩ := (rise_has (k := o.key) (List.pairwise_append.1 HQ.out.2.2.2.2.2.1).2.1).1 hh.2
                have := (List.getElem?_eq_some_iff.1 hz).1
                have := HQ.out.2.2.2.1.1
                omega
              obtain ⟨az, hz0, _, hzr⟩ := HQ.out.2.2.2.1.drop (j := lo + 1) (by omega)
              have hz := (hz0 a rfl).symm
              have HZ := Lib.hid hzr
              clear hz0 hzr
              have HM1 : Hid (ra + lo ≤ 1000000) := Lib.hid (by omega)
              go_wp2_with (first | (go_at_call 35; refine HS.out.mono ?_; rintro e w4 ⟨rfl, hb4⟩; have H4 := Lib.hid (And.intro (own_below HW.out.1 hb4) (And.intro (own_below HW.out.2.1 hb4) (And.intro ((hb4.block _ (Array.getElem?_eq_some_iff.1 HW.out.2.2.1).1).trans HW.out.2.2.1) (And.intro (HW.out.2.2.2.trans (hb4.mono HW.out.2.2.2.size)) ((HQ.out.2.2.2.1.take hlon).later (HW.out.2.2.2.trans (hb4.mono HW.out.2.2.2.size))))))); clear hb4) | (at_builtin; refine wpList_append_gen elemPair rfl (.tmp 32) (.tmp 35) rfl w.heap.size _ ra _ rfl H4.out.1 _ lo _ rfl H4.out.2.2.2.2 (pvs_one _) (ra + lo) rfl HM1 (by decide) H4.out.2.2.2.1.size ?_; intro ao5 c5 w5 hown5 hb5 hg5 ho5; have H5 := Lib.hid (And.intro hown5 (And.intro (app_keep H4.out.1 H4.out.2.1 H4.out.2.2.1 hg5).1 (And.intro (app_keep H4.out.1 H4.out.2.1 H4.out.2.2.1 hg5).2 (H4.out.2.2.2.1.trans hb5)))); have d0 := cells_of H5.out.2.2.1 0 _ rfl; have d1 := cells_of H5.out.2.2.1 1 _ rfl; have d2 := cells_of H5.out.2.2.1 2 _ rfl; clear hown5 hb5 hg5 ho5 b1))
              obtain ⟨ho, hdone, hlow, hrest, hlen, hRA, hi, hlt⟩ := HQ.out
              obtain ⟨hlo, hha⟩ := HLH.out
              obtain ⟨n1, n2⟩ := ap_next hdone hlow hRA ho HKK.out.2.2.1
              have eu : upTo R o = R.take lo ++ [] := by unfold upTo; rw [hlo, hd]; rfl
              have ep : past R o = R.drop (lo + 1) := by unfold past; rw [hlo, hha]; rfl
              refine ⟨⟨i1 + 1, nl - (lo + 1), cl - (lo + 1), ra + lo, c5, az, ao5, by simp, by omega, by first | rfl | simp | (congr 1; omega), rfl, Lib.hid ⟨A ++ upTo R o, past R o, ⟨by rw [ep]; exact HZ.out, by have := H5.out.1; rw [eu, List.append_nil, pvs_app]; exact this, by rw [eu, hlen]; simp; rw [hrest.1] at hlon; omega, H5.out.2.1, H5.out.2.2.2, n1, n2⟩⟩⟩, by simp only [RowKit.intOf]; omega⟩
            | false =>
              rw [hd] at c0 HS HW
              have hln : lo < nl := by
                have hh := HLH.out
                obtain ⟨z, hz, _⟩ := (rise_has (k := o.key) (List.pairwise_append.1 HQ.out.2.2.2.2.2.1).2.1).1 hh.2
                have := (List.getElem?_eq_some_iff.1 hz).1
                have := HQ.out.2.2.2.1.1
                omega
              obtain ⟨az, hz0, _, hzr⟩ := HQ.out.2.2.2.1.drop (j := lo + 1) (by omega)
              have hz := (hz0 a rfl).symm
              have HZ := Lib.hid hzr
              clear hz0 hzr
              have HM1 : Hid (ra + lo ≤ 1000000) := Lib.hid (by omega)
              have HM2 : Hid (ra + lo + 1 ≤ 1000000) := Lib.hid (by omega)
              go_wp2_with (first | (go_at_call 35; refine HS.out.mono ?_; rintro e w4 ⟨rfl, hb4⟩; have H4 := Lib.hid (And.intro (own_below HW.out.1 hb4) (And.intro (own_below HW.out.2.1 hb4) (And.intro ((hb4.block _ (Array.getElem?_eq_some_iff.1 HW.out.2.2.1).1).trans HW.out.2.2.1) (And.intro (HW.out.2.2.2.trans (hb4.mono HW.out.2.2.2.size)) ((HQ.out.2.2.2.1.take hlon).later (HW.out.2.2.2.trans (hb4.mono HW.out.2.2.2.size))))))); clear hb4) | (at_builtin; refine wpList_append_gen elemPair rfl (.tmp 32) (.tmp 35) rfl w.heap.size _ ra _ rfl H4.out.1 _ lo _ rfl H4.out.2.2.2.2 (pvs_one _) (ra + lo) rfl HM1 (by decide) H4.out.2.2.2.1.size ?_; intro ao5 c5 w5 hown5 hb5 hg5 ho5; have H5 := Lib.hid (And.intro hown5 (And.intro (app_keep H4.out.1 H4.out.2.1 H4.out.2.2.1 hg5).1 (And.intro (app_keep H4.out.1 H4.out.2.1 H4.out.2.2.1 hg5).2 (H4.out.2.2.2.1.trans hb5)))); have d0 := cells_of H5.out.2.2.1 0 _ rfl; have d1 := cells_of H5.out.2.2.1 1 _ rfl; have d2 := cells_of H5.out.2.2.1 2 _ rfl; clear hown5 hb5 hg5 ho5 b1) | (at_builtin; refine wpList_append_gen elemPair rfl (.tmp 40) (.tmp 46) rfl w.heap.size _ (ra + lo) _ rfl (own_alloc H5.out.1 _) _ 1 (pv ⟨o.key, o.val⟩) rfl (Cells.lit _ (pv ⟨o.key, o.val⟩) 48 (0, 0) 2 1 rfl) (pv_one _) (ra + lo + 1) rfl HM2 (by decide) (by have := H5.out.2.2.2.size; simp; omega) ?_; intro ao6 c6 w6 hown6 hb6 hg6 ho6; have H6 := Lib.hid (And.intro hown6 (And.intro (app_keep (own_alloc H5.out.1 _) (own_alloc H5.out.2.1 _) ((Below.heap_alloc _ _ _ (Array.getElem?_eq_some_iff.1 H5.out.2.2.1).1).trans H5.out.2.2.1) hg6).1 ((H5.out.2.2.2.alloc H5.out.2.2.2.size _).trans hb6))); clear hown6 hb6 hg6 ho6 d0 d1 d2))
              obtain ⟨ho, hdone, hlow, hrest, hlen, hRA, hi, hlt⟩ := HQ.out
              obtain ⟨hlo, hha⟩ := HLH.out
              obtain ⟨n1, n2⟩ := ap_next hdone hlow hRA ho HKK.out.2.2.1
              have eu : upTo R o = R.take lo ++ [⟨o.key, o.val⟩] := by unfold upTo; rw [hlo, hd]; rfl
              have ep : past R o = R.drop (lo + 1) := by unfold past; rw [hlo, hha]; rfl
              refine ⟨⟨i1 + 1, nl - (lo + 1), cl - (lo + 1), ra + lo + 1, c6, az, ao6, by simp, by omega, by first | rfl | simp | (congr 1; omega), rfl, Lib.hid ⟨A ++ upTo R o, past R o, ⟨by rw [ep]; exact HZ.out, by have := H6.out.1; rw [eu, pvs_app, pvs_app, ← List.append_assoc]; simpa [pvs] using this, by rw [eu, hlen]; simp; rw [hrest.1] at hlon; omega, H6.out.2.1, H6.out.2.2, n1, n2⟩⟩⟩, by simp only [RowKit.intOf]; omega⟩
          | false =>
            cases hd : o.del with
            | true =>
              rw [hd] at c0 HS HW
              obtain ⟨az, hz0, _, hzr⟩ := HQ.out.2.2.2.1.drop (j := lo) (by omega)
              have hz := (hz0 a rfl).symm
              have HZ := Lib.hid hzr
              clear hz0 hzr
              have HM1 : Hid (ra + lo ≤ 1000000) := Lib.hid (by omega)
              go_wp2_with (first | (go_at_call 35; refine HS.out.mono ?_; rintro e w4 ⟨rfl, hb4⟩; have H4 := Lib.hid (And.intro (own_below HW.out.1 hb4) (And.intro (own_below HW.out.2.1 hb4) (And.intro ((hb4.block _ (Array.getElem?_eq_some_iff.1 HW.out.2.2.1).1).trans HW.out.2.2.1) (And.intro (HW.out.2.2.2.trans (hb4.mono HW.out.2.2.2.size)) ((HQ.out.2.2.2.1.take hlon).later (HW.out.2.2.2.trans (hb4.mono HW.out.2.2.2.size))))))); clear hb4) | (at_builtin; refine wpList_append_gen elemPair rfl (.tmp 32) (.tmp 35) rfl w.heap.size _ ra _ rfl H4.out.1 _ lo _ rfl H4.out.2.2.2.2 (pvs_one _) (ra + lo) rfl HM1 (by decide) H4.out.2.2.2.1.size ?_; intro ao5 c5 w5 hown5 hb5 hg5 ho5; have H5 := Lib.hid (And.intro hown5 (And.intro (app_keep H4.out.1 H4.out.2.1 H4.out.2.2.1 hg5).1 (And.intro (app_keep H4.out.1 H4.out.2.1 H4.out.2.2.1 hg5).2 (H4.out.2.2.2.1.trans hb5)))); have d0 := cells_of H5.out.2.2.1 0 _ rfl; have d1 := cells_of H5.out.2.2.1 1 _ rfl; have d2 := cells_of H5.out.2.2.1 2 _ rfl; clear hown5 hb5 hg5 ho5 b1))
              obtain ⟨ho, hdone, hlow, hrest, hlen, hRA, hi, hlt⟩ := HQ.out
              obtain ⟨hlo, hha⟩ := HLH.out
              obtain ⟨n1, n2⟩ := ap_next hdone hlow hRA ho HKK.out.2.2.1
              have eu : upTo R o = R.take lo ++ [] := by unfold upTo; rw [hlo, hd]; rfl
              have ep : past R o = R.drop (lo) := by unfold past; rw [hlo, hha]; rfl
              refine ⟨⟨i1 + 1, nl - (lo), cl - (lo), ra + lo, c5, az, ao5, by simp, by omega, by first | rfl | simp | (congr 1; omega), rfl, Lib.hid ⟨A ++ upTo R o, past R o, ⟨by rw [ep]; exact HZ.out, by have := H5.out.1; rw [eu, List.append_nil, pvs_app]; exact this, by rw [eu, hlen]; simp; rw [hrest.1] at hlon; omega, H5.out.2.1, H5.out.2.2.2, n1, n2⟩⟩⟩, by simp only [RowKit.intOf]; omega⟩
            | false =>
              rw [hd] at c0 HS HW
              obtain ⟨az, hz0, _, hzr⟩ := HQ.out.2.2.2.1.drop (j := lo) (by omega)
              have hz := (hz0 a rfl).symm
              have HZ := Lib.hid hzr
              clear hz0 hzr
              have HM1 : Hid (ra + lo ≤ 1000000) := Lib.hid (by omega)
              have HM2 : Hid (ra + lo + 1 ≤ 1000000) := Lib.hid (by omega)
              go_wp2_with (first | (go_at_call 35; refine HS.out.mono ?_; rintro e w4 ⟨rfl, hb4⟩; have H4 := Lib.hid (And.intro (own_below HW.out.1 hb4) (And.intro (own_below HW.out.2.1 hb4) (And.intro ((hb4.block _ (Array.getElem?_eq_some_iff.1 HW.out.2.2.1).1).trans HW.out.2.2.1) (And.intro (HW.out.2.2.2.trans (hb4.mono HW.out.2.2.2.size)) ((HQ.out.2.2.2.1.take hlon).later (HW.out.2.2.2.trans (hb4.mono HW.out.2.2.2.size))))))); clear hb4) | (at_builtin; refine wpList_append_gen elemPair rfl (.tmp 32) (.tmp 35) rfl w.heap.size _ ra _ rfl H4.out.1 _ lo _ rfl H4.out.2.2.2.2 (pvs_one _) (ra + lo) rfl HM1 (by decide) H4.out.2.2.2.1.size ?_; intro ao5 c5 w5 hown5 hb5 hg5 ho5; have H5 := Lib.hid (And.intro hown5 (And.intro (app_keep H4.out.1 H4.out.2.1 H4.out.2.2.1 hg5).1 (And.intro (app_keep H4.out.1 H4.out.2.1 H4.out.2.2.1 hg5).2 (H4.out.2.2.2.1.trans hb5)))); have d0 := cells_of H5.out.2.2.1 0 _ rfl; have d1 := cells_of H5.out.2.2.1 1 _ rfl; have d2 := cells_of H5.out.2.2.1 2 _ rfl; clear hown5 hb5 hg5 ho5 b1) | (at_builtin; refine wpList_append_gen elemPair rfl (.tmp 40) (.tmp 46) rfl w.heap.size _ (ra + lo) _ rfl (own_alloc H5.out.1 _) _ 1 (pv ⟨o.key, o.val⟩) rfl (Cells.lit _ (pv ⟨o.key, o.val⟩) 48 (0, 0) 2 1 rfl) (pv_one _) (ra + lo + 1) rfl HM2 (by decide) (by have := H5.out.2.2.2.size; simp; omega) ?_; intro ao6 c6 w6 hown6 hb6 hg6 ho6; have H6 := Lib.hid (And.intro hown6 (And.intro (app_keep (own_alloc H5.out.1 _) (own_alloc H5.out.2.1 _) ((Below.heap_alloc _ _ _ (Array.getElem?_eq_some_iff.1 H5.out.2.2.1).1).trans H5.out.2.2.1) hg6).1 ((H5.out.2.2.2.alloc H5.out.2.2.2.size _).trans hb6))); clear hown6 hb6 hg6 ho6 d0 d1 d2))
              obtain ⟨ho, hdone, hlow, hrest, hlen, hRA, hi, hlt⟩ := HQ.out
              obtain ⟨hlo, hha⟩ := HLH.out
              obtain ⟨n1, n2⟩ := ap_next hdone hlow hRA ho HKK.out.2.2.1
              have eu : upTo R o = R.take lo ++ [⟨o.key, o.val⟩] := by unfold upTo; rw [hlo, hd]; rfl
              have ep : past R o = R.drop (lo) := by unfold past; rw [hlo, hha]; rfl
              refine ⟨⟨i1 + 1, nl - (lo), cl - (lo), ra + lo + 1, c6, az, ao6, by simp, by omega, by first | rfl | simp | (congr 1; omega), rfl, Lib.hid ⟨A ++ upTo R o, past R o, ⟨by rw [ep]; exact HZ.out, by have := H6.out.1; rw [eu, pvs_app, pvs_app, ← List.append_assoc]; simpa [pvs] using this, by rw [eu, hlen]; simp; rw [hrest.1] at hlon; omega, H6.out.2.1, H6.out.2.2, n1, n2⟩⟩⟩, by simp only [RowKit.intOf]; omega⟩
      · have h3 : ¬ (i1 : Int) < (q : Int) := by omega
        obtain rfl : i1 = q := by omega
        have hRb : A.length + nl ≤ 300000 := by
          have e := congrArg List.length st.done
          have := applyP_length L0 K i1
          have := st.rest.1
          have := HP0.out.2.1.1
          have := HP0.out.2.2.2.1
          rw [List.length_append] at e
          omega
        have HM : Hid (ra + nl ≤ 1000000) := Lib.hid (by have := st.len; omega)
        have HST := Lib.hid st
        clear st hs hRb
        go_wp2_with (at_builtin; refine wpList_append_gen elemPair rfl _ _ rfl w.heap.size _ ra _ rfl HST.out.own _ nl _ rfl (HST.out.rest.later HST.out.below).2.2.1 (pvs_one R) (ra + nl) rfl HM (by decide) HST.out.below.size ?_; intro ao5 c5 w5 hown5 hb5 _ _)
        go_ret
        have st := HST.out
        have e : A ++ R = applyP L O := by
          rw [st.done, List.take_of_length_le (by have := HKK.out.1; omega), apply_lasts HKK.out.2.2.2.1, HP0.out.2.2.1]
        have hl : ra + nl = (applyP L O).length := by rw [← e, List.length_append, ← st.len, ← st.rest.1]
        rw [← pvs_app, e] at hown5
        refine ⟨ao5, _, c5, rfl, ?_, st.below.trans hb5⟩
        have hO : OwnP w5 w.heap.size (.slice ao5 (ra + nl) c5) (applyP L O) := by unfold OwnP; rw [← hl]; exact hown5
        have := hO.prr (by rw [← hl]; have := HM.out; unfold maxLen; omega) (apply_sizes HR.out.1.2.2.2 HR.out.2.2.2.2)
        rw [← hl] at this
        exact this

end Go.Proofs.Ytabmjjicplomlaa
