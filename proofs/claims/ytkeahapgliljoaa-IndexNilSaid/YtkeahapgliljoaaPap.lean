/- The reference's Apply. Numbers and types by name. -/
import Derived.Test.YtkeahapgliljoaaPuw
import Derived.Test.YtkeahapgliljoaaMvg
namespace Go.Proofs.Ytkeahapgliljoaa
open Go.RowKit Go.Lib Go.Sort

/-- What an op makes of a list, what ops make of it. -/
def stepP (l : List Prm) (o : Opm) : List Prm := if o.del = true then l.filter (fun y => !decide (y.key = o.key)) else putP ⟨o.key, o.val⟩ l
def baseP (L : List Prm) : List Prm := L.foldl (fun l x => putP x l) []
def applyP (L : List Prm) (O : List Opm) : List Prm := O.foldl stepP (baseP L)

theorem putP_length (x : Prm) (l : List Prm) : (putP x l).length ≤ l.length + 1 := by
  induction l with
  | nil => simp [putP]
  | cons y l ih =>
    unfold putP
    split
    · simp only [List.length_cons]; omega
    · split <;> simp
theorem baseP_next {L : List Prm} {k : Nat} {x : Prm} (h : L[k]? = some x) : baseP (L.take (k + 1)) = putP x (baseP (L.take k)) := by
  unfold baseP
  rw [take_next h, List.foldl_append]
  rfl
theorem baseP_length (L : List Prm) (k : Nat) : (baseP (L.take k)).length ≤ k := by
  induction k with
  | zero => simp [baseP]
  | succ k ih =>
    by_cases h : k < L.length
    · have hx : L[k]? = some L[k] := List.getElem?_eq_getElem h
      rw [baseP_next hx]
      have := putP_length L[k] (baseP (L.take k))
      omega
    · rw [List.take_of_length_le (by omega)]
      rw [List.take_of_length_le (by omega)] at ih
      omega
theorem applyP_next {L : List Prm} {O : List Opm} {k : Nat} {o : Opm} (h : O[k]? = some o) : applyP L (O.take (k + 1)) = stepP (applyP L (O.take k)) o := by
  unfold applyP
  rw [take_next h, List.foldl_append]
  rfl
theorem stepP_length (l : List Prm) (o : Opm) : (stepP l o).length ≤ l.length + 1 := by
  unfold stepP
  split
  · exact Nat.le_succ_of_le (List.length_filter_le _ _)
  · exact putP_length _ _
theorem applyP_length (L : List Prm) (O : List Opm) (k : Nat) : (applyP L (O.take k)).length ≤ L.length + k := by
  induction k with
  | zero =>
    have := baseP_length L L.length
    rw [List.take_length] at this
    simpa [applyP] using this
  | succ k ih =>
    by_cases h : k < O.length
    · have hx : O[k]? = some O[k] := List.getElem?_eq_getElem h
      rw [applyP_next hx]
      have := stepP_length (applyP L (O.take k)) O[k]
      omega
    · rw [List.take_of_length_le (by omega)]
      rw [List.take_of_length_le (by omega)] at ih
      omega

/-- Pairs' own row. -/
def OwnP (w : World) (base : Nat) (v : Value) (l : List Prm) : Prop := w.ownsRow base 49 2 v l.length (pvs l)
theorem OwnP.nil (w : World) (base : Nat) : OwnP w base (.slice none 0 0) [] := World.ownsRow_nil _ _ _ _

theorem below_cell {B : Nat} {w w' : World} (hb : Below B w w') {p : Addr} {u : Value} (hp : p.block < B) (hc : w.cell? p = some u) : w'.cell? p = some u := (World.cell?_of_block (hb.block _ hp)).trans hc
theorem apart_grown {W : World} {v v' v6 : Value} (hlt : ∀ g, v.ownBlock = some g → g < W.heap.size) (hap : ∀ g, v.ownBlock = some g → v'.ownBlock ≠ some g) (ho : v6.ownBlock = v'.ownBlock ∨ v6.ownBlock = some W.heap.size) :
    ∀ g, v.ownBlock = some g → v6.ownBlock ≠ some g := by
  intro g hg h6
  rcases ho with h | h
  · exact hap g hg (h.symm.trans h6)
  · have h1 := hlt g hg
    have h2 := h.symm.trans h6
    simp only [Option.some.injEq] at h2
    omega

set_option maxRecDepth 100000 in
set_option maxHeartbeats 8000000 in
theorem ref_apply (v vo : Value) (n m : Nat) (L : List Prm) (O : List Opm) (w : World) (hr : Prr w v n L) (ho : Opr w vo m O) (hn : n ≤ 3000) (hm : m ≤ 5000) :
    Calls Try.prog 11 #[v, vo] w fun e w' => ∃ ao q c, e = .returned (.slice ao q c) ∧ q = (applyP L O).length ∧ OwnP w' w.heap.size (.slice ao q c) (applyP L O) ∧ Below w.heap.size w w' := by
  obtain ⟨ao, c, rfl⟩ := hr.shape
  obtain ⟨aO, cO, rfl⟩ := ho.shape
  have HR := Lib.hid hr
  have HO := Lib.hid ho
  clear hr ho
  go_enter Try.func11, Try.ntmps11
  go_wp2_with fail
  go_loopw [5, 6] (fun ov i wr => ∃ (k r c : Nat) (aw : Option Addr), k ≤ n ∧ i = .int .i64 k ∧ ov = .slice aw r c ∧ Hid (r = (baseP (L.take k)).length ∧ OwnP wr w.heap.size (.slice aw r c) (baseP (L.take k)) ∧ Below w.heap.size w wr))
    (fun _ i _ => n - (RowKit.intOf i).toNat)
  case atStart => exact ⟨0, 0, 0, none, Nat.zero_le _, rfl, rfl, Lib.hid ⟨rfl, OwnP.nil _ _, Below.refl _ _⟩⟩
  case round =>
    obtain ⟨k, r, cw, aw, hk, rfl, rfl, hrel⟩ := hrel
    by_cases h1 : k < n
    · have h3 : (k : Int) < (n : Int) := by omega
      obtain ⟨a, x, rfl, hx, c0, c1, _, _⟩ := (HR.out.later hrel.out.2.2).at h1
      have hlen := baseP_length L k
      have HP := Lib.hid (ref_putP w.heap.size aw r cw (baseP (L.take k)) x wr (by have := hrel.out.2.1; unfold OwnP at this; rw [← hrel.out.1] at this; exact this) hrel.out.1 hrel.out.2.2.size (by have := hrel.out.1; omega))
      have HX := Lib.hid (And.intro hx hrel.out.2.2)
      clear hx hlen hrel
      go_wp2_with fail
      refine HP.out.mono ?_
      rintro e w2 ⟨a2, r2, c2, rfl, hr2, hown2, hb2⟩
      have HN := Lib.hid (And.intro hr2 (And.intro hown2 (HX.out.2.trans hb2)))
      clear hr2 hown2 hb2 HP
      go_wp2_with fail
      go_roundw
      case rel =>
        refine ⟨k + 1, r2, c2, a2, by omega, by go_num, rfl, Lib.hid ?_⟩
        rw [baseP_next HX.out.1]
        unfold OwnP
        rw [← HN.out.1]
        exact ⟨rfl, HN.out.2.1, HN.out.2.2⟩
      case measure => simp [RowKit.intOf]; omega
    · obtain rfl : k = n := by omega
      have h3 : ¬ (k : Int) < (k : Int) := by omega
      have hL : L.take k = L := List.take_of_length_le (by have := HR.out.1; omega)
      rw [hL] at hrel
      have HI := hrel
      clear hrel hL
      go_wp2_with fail
      go_loopw [5, 7] (fun ov i wr => ∃ (j r c : Nat) (aw : Option Addr), j ≤ m ∧ i = .int .i64 j ∧ ov = .slice aw r c ∧ Hid (r = (applyP L (O.take j)).length ∧ OwnP wr w.heap.size (.slice aw r c) (applyP L (O.take j)) ∧ Below w.heap.size w wr))
        (fun _ i _ => m - (RowKit.intOf i).toNat)
      case atStart => exact ⟨0, r, cw, aw, Nat.zero_le _, rfl, rfl, Lib.hid (by simpa [applyP] using HI.out)⟩
      case round =>
        clear HI
        obtain ⟨j, r, cw, aw, hj, rfl, rfl, hrel⟩ := hrel
        by_cases h1 : j < m
        · have h4 : (j : Int) < (m : Int) := by omega
          obtain ⟨a, o, rfl, hx, c0, c1, c2, _, _⟩ := (HO.out.later hrel.out.2.2).at h1
          have hlen := applyP_length L O j
          have hrL : r ≤ 8000 := by have := hrel.out.1; have := HR.out.1; omega
          have hblk : (a.add (j * 3)).block < w.heap.size := by
            obtain ⟨a', o', e, _, d0, _⟩ := HO.out.at h1
            cases e
            exact World.block_lt_of_cell? w _ d0
          cases hd : o.del with
          | false =>
            rw [hd] at c0
            have HP := Lib.hid (ref_putP w.heap.size aw r cw (applyP L (O.take j)) ⟨o.key, o.val⟩ wr.drew (by have := hrel.out.2.1; unfold OwnP at this; rw [← hrel.out.1] at this; exact this) hrel.out.1 hrel.out.2.2.size (by omega))
            have HX := Lib.hid (And.intro hx (And.intro hrel.out.2.2 hd))
            have up : ∀ {p : Addr} {u : Value}, p.block < w.heap.size → wr.cell? p = some u → ∀ w', Below w.heap.size wr.drew w' → w'.cell? p = some u := fun {p u} hp hc w' hb => (World.cell?_of_block (hb.block _ hp)).trans hc
            have d1 := up (by exact hblk) c1
            have d2 := up (by exact hblk) c2
            clear hx hlen hrel hd up c1 c2
            go_wp2_with fail
            refine wp_region_mvg (Below w.heap.size) (Below.refl _) (fun h k => h.trans k) [(0, 12, true), (12, 1, false), (13, 1, true)] (by kernel_rfl) (by kernel_rfl) ?_
            simp only [mvAll, mvSeg, List.drop_succ_cons, List.drop_zero, List.cons_append, List.nil_append, Nat.reduceAdd]
            iterate 12
              refine wpLing_still ?_ (fun w' hG K hK => ?_) (fun K hK => ?_)
              rotate_left
              · have e1 := d1 w' hG
                have e2 := d2 w' hG
                clear hG
                unfold mvVal
                go_simp
                try exact hK
              go_simp
              refine hK _ ?_
              clear hK K
            refine wpLing_call (fun K hK => ?_)
            unfold mvRun
            go_simp
            simp only [mvUpon]
            refine HP.out.mono ?_
            rintro e w2 ⟨a2, r2, c2, rfl, hr2, hown2, hb2⟩
            have HN := Lib.hid (And.intro hr2 (And.intro hown2 (HX.out.2.1.drew.trans hb2)))
            clear hr2 hown2
            refine ⟨_, rfl, ?_⟩
            go_simp
            refine hK _ _ hb2 ?_
            clear hK K HP d1 d2 hb2
            refine wpLing_still ?_ (fun w' hG K hK => ?_) (fun K hK => ?_)
            rotate_left
            · unfold mvVal
              go_simp
              try exact hK
            go_simp
            refine hK _ ?_
            clear hK K
            refine wpLing_nil ?_
            go_wp2_with fail
            go_roundw
            case rel =>
              refine ⟨j + 1, r2, c2, a2, by omega, by go_num, rfl, Lib.hid ?_⟩
              rw [applyP_next HX.out.1]
              have e : stepP (applyP L (O.take j)) o = putP ⟨o.key, o.val⟩ (applyP L (O.take j)) := by unfold stepP; rw [if_neg (by rw [HX.out.2.2]; simp)]
              rw [e]
              unfold OwnP
              rw [← HN.out.1]
              exact ⟨rfl, HN.out.2.1, HN.out.2.2⟩
            case measure => simp [RowKit.intOf]; omega
          | true =>
            rw [hd] at c0
            obtain ⟨cur, hcur⟩ : ∃ cur, cur = applyP L (O.take j) := ⟨_, rfl⟩
            rw [← hcur] at hrel
            have HX := Lib.hid (And.intro hx (And.intro hcur (And.intro hd (And.intro hrel.out.1 hrel.out.2.2))))
            have HOW := Lib.hid hrel.out.2.1
            have hc1 : ∀ w', Below w.heap.size w w' → w'.cell? ⟨(a.add (j * 3)).block, (a.add (j * 3)).off + 1, none⟩ = some (.string o.key) := by
              obtain ⟨a', o', e, hx', _, d1, _⟩ := HO.out.at h1
              cases e
              obtain rfl : o = o' := by rw [hx] at hx'; exact Option.some.inj hx'
              exact fun w' hb => below_cell hb (p := ⟨(a.add (j * 3)).block, (a.add (j * 3)).off + 1, none⟩) hblk d1
            have HC1 := Lib.hid hc1
            clear hx hcur hd hrel c1 c2 hlen hc1 hblk
            go_wp2_with fail
            go_loopw [8, 9] (fun nv i wr => ∃ (t s cn : Nat) (an : Option Addr), t ≤ r ∧ i = .int .i64 t ∧ nv = .slice an s cn ∧ Hid (s = ((cur.take t).filter (fun y => !decide (y.key = o.key))).length ∧ OwnP wr w.heap.size (.slice aw r cw) cur ∧ OwnP wr w.heap.size (.slice an s cn) ((cur.take t).filter (fun y => !decide (y.key = o.key))) ∧ (∀ g, (Value.slice aw r cw).ownBlock = some g → (Value.slice an s cn).ownBlock ≠ some g) ∧ Below w.heap.size w wr))
              (fun _ i _ => r - (RowKit.intOf i).toNat)
            case atStart => exact ⟨0, 0, 0, none, Nat.zero_le _, rfl, rfl, Lib.hid ⟨rfl, HOW.out, OwnP.nil _ _, (fun g _ h => by cases h), HX.out.2.2.2.2⟩⟩
            case round =>
              obtain ⟨t, s, cn, an, ht, rfl, rfl, hrel⟩ := hrel
              by_cases h5 : t < r
              · have h6 : (t : Int) < (r : Int) := by omega
                obtain ⟨x, hx⟩ : ∃ x, cur[t]? = some x := ⟨_, List.getElem?_eq_getElem (by have := HX.out.2.2.2.1; omega)⟩
                have hzl : (pvs cur).length = r * 2 := by rw [pvs_length, ← HX.out.2.2.2.1]
                have q1 := pvs_at hx 0 (by omega)
                have q2 := pvs_at hx 1 (by omega)
                rw [Nat.add_zero (t * 2)] at q1
                have hownr := hrel.out.2.1
                unfold OwnP at hownr
                rw [← HX.out.2.2.2.1] at hownr
                obtain ⟨g, rfl, k1, _⟩ := row_cell2 hownr hzl (q1.trans rfl)
                obtain ⟨_, e, k2, _⟩ := row_cell2 hownr hzl (q2.trans rfl)
                cases e
                have k3 := HC1.out wr hrel.out.2.2.2.2
                have hsl : s ≤ 8000 := by
                  have := hrel.out.1
                  have h7 := List.length_filter_le (fun y : Prm => !decide (y.key = o.key)) (cur.take t)
                  have h8 : (cur.take t).length ≤ t := by simp; omega
                  omega
                have FL : Hid (s + 1 ≤ 1000000) := Lib.hid (by omega)
                have HY := Lib.hid (And.intro hx hownr)
                clear hx hzl q1 q2 hownr
                obtain ⟨xk, xv⟩ := x
                simp only at k1 k2
                by_cases heq : xk.toList = o.key.toList
                · have hke : xk = o.key := text_inj' heq
                  have HE := Lib.hid hke
                  have hb1 : (xk.toList == o.key.toList) = true := by simpa using heq
                  have hb2 : (xk.toList != o.key.toList) = false := by simpa using heq
                  clear hke
                  go_wp2_with fail
                  go_quiet (fail)
                  go_wp2_with fail
                  go_roundw
                  case rel =>
                    refine ⟨t + 1, s, cn, an, by omega, by go_num, rfl, Lib.hid ?_⟩
                    have e : (cur.take (t + 1)).filter (fun y => !decide (y.key = o.key)) = (cur.take t).filter (fun y => !decide (y.key = o.key)) := by
                      rw [take_next HY.out.1, List.filter_append, List.filter_cons_of_neg (by simp [HE.out])]
                      simp
                    rw [e]
                    exact ⟨hrel.out.1, hrel.out.2.1, hrel.out.2.2.1, hrel.out.2.2.2.1, below_drewN hrel.out.2.2.2.2 _⟩
                  case measure => simp [RowKit.intOf]; omega
                · have HE : Hid (¬ xk = o.key) := Lib.hid (fun e => heq (by rw [e]))
                  have hb1 : (xk.toList == o.key.toList) = false := by simpa using heq
                  have hb2 : (xk.toList != o.key.toList) = true := by simpa using heq
                  have hns := hrel.out.2.2.1
                  unfold OwnP at hns
                  rw [← hrel.out.1] at hns
                  have HNS := Lib.hid hns
                  clear hns
                  go_wp2_with fail
                  go_quiet (fail)
                  go_wp2_with (at_builtin; refine wpList_append_gen elemPair rfl (.tmp 64) (.tmp 69) rfl w.heap.size _ s _ rfl (own_alloc (own_drewN HNS.out _) _) _ 1 (pv ⟨xk, xv⟩) rfl (Cells.lit _ (pv ⟨xk, xv⟩) 49 (0, 0) 2 1 rfl) (by intro u hu; simp only [pv, List.mem_cons, List.not_mem_nil, or_false] at hu; rcases hu with rfl | rfl <;> rfl) (s + 1) rfl FL (by decide) (by have := hrel.out.2.2.2.2.size; simp; omega) ?_; intro ao6 c6 w6 hown6 hb6 hg6 ho6; have HPG := Lib.hid (And.intro (owns_grown (own_alloc (own_drewN HY.out.2 _) _) hg6 (fun g hg => hrel.out.2.2.2.1 g hg)) (And.intro hown6 (And.intro (apart_grown (fun g hg => ((own_alloc (own_drewN HY.out.2 _) _).lt g hg).2) hrel.out.2.2.2.1 ho6) (((hrel.out.2.2.2.2.trans (below_drewN (Below.refl _ _) _)).alloc (by have := hrel.out.2.2.2.2.size; simp; omega) _).trans hb6)))); clear hown6 hb6 hg6 ho6)
                  go_wp2_with fail
                  go_roundw
                  case rel =>
                    refine ⟨t + 1, s + 1, c6, ao6, by omega, by go_num, rfl, Lib.hid ?_⟩
                    have e : (cur.take (t + 1)).filter (fun y => !decide (y.key = o.key)) = (cur.take t).filter (fun y => !decide (y.key = o.key)) ++ [⟨xk, xv⟩] := by
                      rw [take_next HY.out.1, List.filter_append, List.filter_cons_of_pos (by simp [HE.out])]
                      simp
                    rw [e]
                    have e2 : ∀ l : List Prm, pvs (l ++ [⟨xk, xv⟩]) = pvs l ++ pv ⟨xk, xv⟩ := fun l => by simp [pvs]
                    refine ⟨by rw [List.length_append, ← hrel.out.1]; rfl, ?_, ?_, HPG.out.2.2.1, HPG.out.2.2.2⟩
                    · unfold OwnP; rw [← HX.out.2.2.2.1]; exact HPG.out.1
                    · unfold OwnP; rw [e2, List.length_append, ← hrel.out.1]; exact HPG.out.2.1
                  case measure => simp [RowKit.intOf]; omega
              · obtain rfl : t = r := by omega
                have h6 : ¬ (t : Int) < (t : Int) := by omega
                have hL : cur.take t = cur := List.take_of_length_le (by have := HX.out.2.2.2.1; omega)
                rw [hL] at hrel
                clear hL
                go_wp2_with fail
                go_roundw
                case rel =>
                  refine ⟨j + 1, s, cn, an, by omega, by go_num, rfl, Lib.hid ?_⟩
                  rw [applyP_next HX.out.1, ← HX.out.2.1]
                  have e : stepP cur o = cur.filter (fun y => !decide (y.key = o.key)) := by unfold stepP; rw [if_pos HX.out.2.2.1]
                  rw [e]
                  exact ⟨hrel.out.1, hrel.out.2.2.1, hrel.out.2.2.2.2⟩
                case measure => simp [RowKit.intOf]; omega
        · obtain rfl : j = m := by omega
          have h4 : ¬ (j : Int) < (j : Int) := by omega
          have hL : O.take j = O := List.take_of_length_le (by have := HO.out.1; omega)
          rw [hL] at hrel
          clear hL
          go_wp2_with fail
          go_ret
          exact ⟨aw, r, cw, rfl, hrel.out.1, hrel.out.2.1, hrel.out.2.2⟩

end Go.Proofs.Ytkeahapgliljoaa
