/- Lists of pairs by what stands at their keys: plain facts. Numbers and types by name. -/
import Derived.Test.YthcdkggkoanjpaaGreatDoorFrp
import Derived.Test.YthcdkggkoanjpaaGreatDoorScr
import Derived.Test.YthcdkggkoanjpaaGreatDoorPuw
namespace Go.Proofs.YthcdkggkoanjpaaGreatDoor
open Go.RowKit Go.Lib Go.Sort
def stepP (l : List Prm) (o : Opm) : List Prm := if o.del = true then l.filter (fun y => !decide (y.key = o.key)) else putP ⟨o.key, o.val⟩ l
def baseP (L : List Prm) : List Prm := L.foldl (fun l x => putP x l) []
def applyP (L : List Prm) (O : List Opm) : List Prm := O.foldl stepP (baseP L)
theorem putP_length (x : Prm) (l : List Prm) : (putP x l).length ≤ l.length + 1 := by
  induction l with
  | nil => simp [putP]
  | cons y l ih =>
    unfold putP
    split
    · simp only [List.length_cons]; omega
    · split <;> simp
theorem baseP_next {L : List Prm} {k : Nat} {x : Prm} (h : L[k]? = some x) : baseP (L.take (k + 1)) = putP x (baseP (L.take k)) := by
  unfold baseP
  rw [take_next h, List.foldl_append]
  rfl
theorem baseP_length (L : List Prm) (k : Nat) : (baseP (L.take k)).length ≤ k := by
  induction k with
  | zero => simp [baseP]
  | succ k ih =>
    by_cases h : k < L.length
    · have hx : L[k]? = some L[k] := List.getElem?_eq_getElem h
      rw [baseP_next hx]
      have := putP_length L[k] (baseP (L.take k))
      omega
    · rw [List.take_of_length_le (by omega)]
      rw [List.take_of_length_le (by omega)] at ih
      omega
theorem applyP_next {L : List Prm} {O : List Opm} {k : Nat} {o : Opm} (h : O[k]? = some o) : applyP L (O.take (k + 1)) = stepP (applyP L (O.take k)) o := by
  unfold applyP
  rw [take_next h, List.foldl_append]
  rfl
theorem stepP_length (l : List Prm) (o : Opm) : (stepP l o).length ≤ l.length + 1 := by
  unfold stepP
  split
  · exact Nat.le_succ_of_le (List.length_filter_le _ _)
  · exact putP_length _ _
theorem applyP_length (L : List Prm) (O : List Opm) (k : Nat) : (applyP L (O.take k)).length ≤ L.length + k := by
  induction k with
  | zero =>
    have := baseP_length L L.length
    rw [List.take_length] at this
    simpa [applyP] using this
  | succ k ih =>
    by_cases h : k < O.length
    · have hx : O[k]? = some O[k] := List.getElem?_eq_getElem h
      rw [applyP_next hx]
      have := stepP_length (applyP L (O.take k)) O[k]
      omega
    · rw [List.take_of_length_le (by omega)]
      rw [List.take_of_length_le (by omega)] at ih
      omega
def OwnP (w : World) (base : Nat) (v : Value) (l : List Prm) : Prop := w.ownsRow base 90 2 v l.length (pvs l)
theorem OwnP.nil (w : World) (base : Nat) : OwnP w base (.slice none 0 0) [] := World.ownsRow_nil _ _ _ _
theorem below_cell {B : Nat} {w w' : World} (hb : Below B w w') {p : Addr} {u : Value} (hp : p.block < B) (hc : w.cell? p = some u) : w'.cell? p = some u := (World.cell?_of_block (hb.block _ hp)).trans hc
theorem apart_grown {W : World} {v v' v6 : Value} (hlt : ∀ g, v.ownBlock = some g → g < W.heap.size) (hap : ∀ g, v.ownBlock = some g → v'.ownBlock ≠ some g) (ho : v6.ownBlock = v'.ownBlock ∨ v6.ownBlock = some W.heap.size) :
    ∀ g, v.ownBlock = some g → v6.ownBlock ≠ some g := by
  intro g hg h6
  rcases ho with h | h
  · exact hap g hg (h.symm.trans h6)
  · have h1 := hlt g hg
    have h2 := h.symm.trans h6
    simp only [Option.some.injEq] at h2
    omega
set_option maxRecDepth 100000 in
set_option maxHeartbeats 8000000 in
theorem ref_apply (v vo : Value) (n m : Nat) (L : List Prm) (O : List Opm) (w : World) (hr : Prr w v n L) (ho : Opr w vo m O) (hn : n ≤ 700000) (hm : m ≤ 5000) :
    Calls Tryz.prog 28 #[v, vo] w fun e w' => ∃ ao q c, e = .returned (.slice ao q c) ∧ q = (applyP L O).length ∧ OwnP w' w.heap.size (.slice ao q c) (applyP L O) ∧ Below w.heap.size w w' := by
  obtain ⟨ao, c, rfl⟩ := hr.shape
  obtain ⟨aO, cO, rfl⟩ := ho.shape
  have HR := Lib.hid hr
  have HO := Lib.hid ho
  clear hr ho
  go_enter Tryz.func28, Tryz.ntmps28
  go_wp2_with fail
  go_loopw [5, 6] (fun ov i wr => ∃ (k r c : Nat) (aw : Option Addr), k ≤ n ∧ i = .int .i64 k ∧ ov = .slice aw r c ∧ Hid (r = (baseP (L.take k)).length ∧ OwnP wr w.heap.size (.slice aw r c) (baseP (L.take k)) ∧ Below w.heap.size w wr))
    (fun _ i _ => n - (RowKit.intOf i).toNat)
  case atStart => exact ⟨0, 0, 0, none, Nat.zero_le _, rfl, rfl, Lib.hid ⟨rfl, OwnP.nil _ _, Below.refl _ _⟩⟩
  case round =>
    obtain ⟨k, r, cw, aw, hk, rfl, rfl, hrel⟩ := hrel
    by_cases h1 : k < n
    · have h3 : (k : Int) < (n : Int) := by omega
      obtain ⟨a, x, rfl, hx, c0, c1, _, _⟩ := (HR.out.later hrel.out.2.2).at h1
      have hlen := baseP_length L k
      have HP := Lib.hid (ref_putP w.heap.size aw r cw (baseP (L.take k)) x wr (by have := hrel.out.2.1; unfold OwnP at this; rw [← hrel.out.1] at this; exact this) hrel.out.1 hrel.out.2.2.size (by have := hrel.out.1; omega))
      have HX := Lib.hid (And.intro hx hrel.out.2.2)
      clear hx hlen hrel
      go_wp2_with fail
      refine HP.out.mono ?_
      rintro e w2 ⟨a2, r2, c2, rfl, hr2, hown2, hb2⟩
      have HN := Lib.hid (And.intro hr2 (And.intro hown2 (HX.out.2.trans hb2)))
      clear hr2 hown2 hb2 HP
      go_wp2_with fail
      go_roundw
      case rel =>
        refine ⟨k + 1, r2, c2, a2, by omega, by go_num, rfl, Lib.hid ?_⟩
        rw [baseP_next HX.out.1]
        unfold OwnP
        rw [← HN.out.1]
        exact ⟨rfl, HN.out.2.1, HN.out.2.2⟩
      case measure => simp [RowKit.intOf]; omega
    · obtain rfl : k = n := by omega
      have h3 : ¬ (k : Int) < (k : Int) := by omega
      have hL : L.take k = L := List.take_of_length_le (by have := HR.out.1; omega)
      rw [hL] at hrel
      have HI := hrel
      clear hrel hL
      go_wp2_with fail
      go_loopw [5, 7] (fun ov i wr => ∃ (j r c : Nat) (aw : Option Addr), j ≤ m ∧ i = .int .i64 j ∧ ov = .slice aw r c ∧ Hid (r = (applyP L (O.take j)).length ∧ OwnP wr w.heap.size (.slice aw r c) (applyP L (O.take j)) ∧ Below w.heap.size w wr))
        (fun _ i _ => m - (RowKit.intOf i).toNat)
      case atStart => exact ⟨0, r, cw, aw, Nat.zero_le _, rfl, rfl, Lib.hid (by simpa [applyP] using HI.out)⟩
      case round =>
        clear HI
        obtain ⟨j, r, cw, aw, hj, rfl, rfl, hrel⟩ := hrel
        by_cases h1 : j < m
        · have h4 : (j : Int) < (m : Int) := by omega
          obtain ⟨a, o, rfl, hx, c0, c1, c2, _, _⟩ := (HO.out.later hrel.out.2.2).at h1
          have hlen := applyP_length L O j
          have hrL : r ≤ 800000 := by have := hrel.out.1; have := HR.out.1; omega
          have hblk : (a.add (j * 3)).block < w.heap.size := by
            obtain ⟨a', o', e, _, d0, _⟩ := HO.out.at h1
            cases e
            exact World.block_lt_of_cell? w _ d0
          cases hd : o.del with
          | false =>
            rw [hd] at c0
            have HP := Lib.hid (ref_putP w.heap.size aw r cw (applyP L (O.take j)) ⟨o.key, o.val⟩ wr.drew (by have := hrel.out.2.1; unfold OwnP at this; rw [← hrel.out.1] at this; exact this) hrel.out.1 hrel.out.2.2.size (by omega))
            have HX := Lib.hid (And.intro hx (And.intro hrel.out.2.2 hd))
            have up : ∀ {p : Addr} {u : Value}, p.block < w.heap.size → wr.cell? p = some u → ∀ w', Below w.heap.size wr.drew w' → w'.cell? p = some u := fun {p u} hp hc w' hb => (World.cell?_of_block (hb.block _ hp)).trans hc
            have d1 := up (by exact hblk) c1
            have d2 := up (by exact hblk) c2
            clear hx hlen hrel hd up c1 c2
            go_wp2_with fail
            refine wp_region_mvg (Below w.heap.size) (Below.refl _) (fun h k => h.trans k) [(0, 12, true), (12, 1, false), (13, 1, true)] (by kernel_rfl) (by kernel_rfl) ?_
            simp only [mvAll, mvSeg, List.drop_succ_cons, List.drop_zero, List.cons_append, List.nil_append, Nat.reduceAdd]
            iterate 12
              refine wpLing_still ?_ (fun w' hG K hK => ?_) (fun K hK => ?_)
              rotate_left
              · have e1 := d1 w' hG
                have e2 := d2 w' hG
                clear hG
                unfold mvVal
                go_simp
                try exact hK
              go_simp
              refine hK _ ?_
              clear hK K
            refine wpLing_call (fun K hK => ?_)
            unfold mvRun
            go_simp
            simp only [mvUpon]
            refine HP.out.mono ?_
            rintro e w2 ⟨a2, r2, c2, rfl, hr2, hown2, hb2⟩
            have HN := Lib.hid (And.intro hr2 (And.intro hown2 (HX.out.2.1.drew.trans hb2)))
            clear hr2 hown2
            refine ⟨_, rfl, ?_⟩
            go_simp
            refine hK _ _ hb2 ?_
            clear hK K HP d1 d2 hb2
            refine wpLing_still ?_ (fun w' hG K hK => ?_) (fun K hK => ?_)
            rotate_left
            · unfold mvVal
              go_simp
              try exact hK
            go_simp
            refine hK _ ?_
            clear hK K
            refine wpLing_nil ?_
            go_wp2_with fail
            go_roundw
            case rel =>
              refine ⟨j + 1, r2, c2, a2, by omega, by go_num, rfl, Lib.hid ?_⟩
              rw [applyP_next HX.out.1]
              have e : stepP (applyP L (O.take j)) o = putP ⟨o.key, o.val⟩ (applyP L (O.take j)) := by unfold stepP; rw [if_neg (by rw [HX.out.2.2]; simp)]
              rw [e]
              unfold OwnP
              rw [← HN.out.1]
              exact ⟨rfl, HN.out.2.1, HN.out.2.2⟩
            case measure => simp [RowKit.intOf]; omega
          | true =>
            rw [hd] at c0
            obtain ⟨cur, hcur⟩ : ∃ cur, cur = applyP L (O.take j) := ⟨_, rfl⟩
            rw [← hcur] at hrel
            have HX := Lib.hid (And.intro hx (And.intro hcur (And.intro hd (And.intro hrel.out.1 hrel.out.2.2))))
            have HOW := Lib.hid hrel.out.2.1
            have hc1 : ∀ w', Below w.heap.size w w' → w'.cell? ⟨(a.add (j * 3)).block, (a.add (j * 3)).off + 1, none⟩ = some (.string o.key) := by
              obtain ⟨a', o', e, hx', _, d1, _⟩ := HO.out.at h1
              cases e
              obtain rfl : o = o' := by rw [hx] at hx'; exact Option.some.inj hx'
              exact fun w' hb => below_cell hb (p := ⟨(a.add (j * 3)).block, (a.add (j * 3)).off + 1, none⟩) hblk d1
            have HC1 := Lib.hid hc1
            clear hx hcur hd hrel c1 c2 hlen hc1 hblk
            go_wp2_with fail
            go_loopw [8, 9] (fun nv i wr => ∃ (t s cn : Nat) (an : Option Addr), t ≤ r ∧ i = .int .i64 t ∧ nv = .slice an s cn ∧ Hid (s = ((cur.take t).filter (fun y => !decide (y.key = o.key))).length ∧ OwnP wr w.heap.size (.slice aw r cw) cur ∧ OwnP wr w.heap.size (.slice an s cn) ((cur.take t).filter (fun y => !decide (y.key = o.key))) ∧ (∀ g, (Value.slice aw r cw).ownBlock = some g → (Value.slice an s cn).ownBlock ≠ some g) ∧ Below w.heap.size w wr))
              (fun _ i _ => r - (RowKit.intOf i).toNat)
            case atStart => exact ⟨0, 0, 0, none, Nat.zero_le _, rfl, rfl, Lib.hid ⟨rfl, HOW.out, OwnP.nil _ _, (fun g _ h => by cases h), HX.out.2.2.2.2⟩⟩
            case round =>
              obtain ⟨t, s, cn, an, ht, rfl, rfl, hrel⟩ := hrel
              by_cases h5 : t < r
              · have h6 : (t : Int) < (r : Int) := by omega
                obtain ⟨x, hx⟩ : ∃ x, cur[t]? = some x := ⟨_, List.getElem?_eq_getElem (by have := HX.out.2.2.2.1; omega)⟩
                have hzl : (pvs cur).length = r * 2 := by rw [pvs_length, ← HX.out.2.2.2.1]
                have q1 := pvs_at hx 0 (by omega)
                have q2 := pvs_at hx 1 (by omega)
                rw [Nat.add_zero (t * 2)] at q1
                have hownr := hrel.out.2.1
                unfold OwnP at hownr
                rw [← HX.out.2.2.2.1] at hownr
                obtain ⟨g, rfl, k1, _⟩ := row_cell2 hownr hzl (q1.trans rfl)
                obtain ⟨_, e, k2, _⟩ := row_cell2 hownr hzl (q2.trans rfl)
                cases e
                have k3 := HC1.out wr hrel.out.2.2.2.2
                have hsl : s ≤ 800000 := by
                  have := hrel.out.1
                  have h7 := List.length_filter_le (fun y : Prm => !decide (y.key = o.key)) (cur.take t)
                  have h8 : (cur.take t).length ≤ t := by simp; omega
                  omega
                have FL : Hid (s + 1 ≤ 1000000) := Lib.hid (by omega)
                have HY := Lib.hid (And.intro hx hownr)
                clear hx hzl q1 q2 hownr
                obtain ⟨xk, xv⟩ := x
                simp only at k1 k2
                by_cases heq : xk.toList = o.key.toList
                · have hke : xk = o.key := text_inj' heq
                  have HE := Lib.hid hke
                  have hb1 : (xk.toList == o.key.toList) = true := by simpa using heq
                  have hb2 : (xk.toList != o.key.toList) = false := by simpa using heq
                  clear hke
                  go_wp2_with fail
                  go_quiet (fail)
                  go_wp2_with fail
                  go_roundw
                  case rel =>
                    refine ⟨t + 1, s, cn, an, by omega, by go_num, rfl, Lib.hid ?_⟩
                    have e : (cur.take (t + 1)).filter (fun y => !decide (y.key = o.key)) = (cur.take t).filter (fun y => !decide (y.key = o.key)) := by
                      rw [take_next HY.out.1, List.filter_append, List.filter_cons_of_neg (by simp [HE.out])]
                      simp
                    rw [e]
                    exact ⟨hrel.out.1, hrel.out.2.1, hrel.out.2.2.1, hrel.out.2.2.2.1, below_drewN hrel.out.2.2.2.2 _⟩
                  case measure => simp [RowKit.intOf]; omega
                · have HE : Hid (¬ xk = o.key) := Lib.hid (fun e => heq (by rw [e]))
                  have hb1 : (xk.toList == o.key.toList) = false := by simpa using heq
                  have hb2 : (xk.toList != o.key.toList) = true := by simpa using heq
                  have hns := hrel.out.2.2.1
                  unfold OwnP at hns
                  rw [← hrel.out.1] at hns
                  have HNS := Lib.hid hns
                  clear hns
                  go_wp2_with fail
                  go_quiet (fail)
                  go_wp2_with (at_builtin; refine wpList_append_gen elemPair rfl (.tmp 64) (.tmp 69) rfl w.heap.size _ s _ rfl (own_alloc (own_drewN HNS.out _) _) _ 1 (pv ⟨xk, xv⟩) rfl (Cells.lit _ (pv ⟨xk, xv⟩) 90 (0, 0) 2 1 rfl) (by intro u hu; simp only [pv, List.mem_cons, List.not_mem_nil, or_false] at hu; rcases hu with rfl | rfl <;> rfl) (s + 1) rfl FL (by decide) (by have := hrel.out.2.2.2.2.size; simp; omega) ?_; intro ao6 c6 w6 hown6 hb6 hg6 ho6; have HPG := Lib.hid (And.intro (owns_grown (own_alloc (own_drewN HY.out.2 _) _) hg6 (fun g hg => hrel.out.2.2.2.1 g hg)) (And.intro hown6 (And.intro (apart_grown (fun g hg => ((own_alloc (own_drewN HY.out.2 _) _).lt g hg).2) hrel.out.2.2.2.1 ho6) (((hrel.out.2.2.2.2.trans (below_drewN (Below.refl _ _) _)).alloc (by have := hrel.out.2.2.2.2.size; simp; omega) _).trans hb6)))); clear hown6 hb6 hg6 ho6)
                  go_wp2_with fail
                  go_roundw
                  case rel =>
                    refine ⟨t + 1, s + 1, c6, ao6, by omega, by go_num, rfl, Lib.hid ?_⟩
                    have e : (cur.take (t + 1)).filter (fun y => !decide (y.key = o.key)) = (cur.take t).filter (fun y => !decide (y.key = o.key)) ++ [⟨xk, xv⟩] := by
                      rw [take_next HY.out.1, List.filter_append, List.filter_cons_of_pos (by simp [HE.out])]
                      simp
                    rw [e]
                    have e2 : ∀ l : List Prm, pvs (l ++ [⟨xk, xv⟩]) = pvs l ++ pv ⟨xk, xv⟩ := fun l => by simp [pvs]
                    refine ⟨by rw [List.length_append, ← hrel.out.1]; rfl, ?_, ?_, HPG.out.2.2.1, HPG.out.2.2.2⟩
                    · unfold OwnP; rw [← HX.out.2.2.2.1]; exact HPG.out.1
                    · unfold OwnP; rw [e2, List.length_append, ← hrel.out.1]; exact HPG.out.2.1
                  case measure => simp [RowKit.intOf]; omega
              · obtain rfl : t = r := by omega
                have h6 : ¬ (t : Int) < (t : Int) := by omega
                have hL : cur.take t = cur := List.take_of_length_le (by have := HX.out.2.2.2.1; omega)
                rw [hL] at hrel
                clear hL
                go_wp2_with fail
                go_roundw
                case rel =>
                  refine ⟨j + 1, s, cn, an, by omega, by go_num, rfl, Lib.hid ?_⟩
                  rw [applyP_next HX.out.1, ← HX.out.2.1]
                  have e : stepP cur o = cur.filter (fun y => !decide (y.key = o.key)) := by unfold stepP; rw [if_pos HX.out.2.2.1]
                  rw [e]
                  exact ⟨hrel.out.1, hrel.out.2.2.1, hrel.out.2.2.2.2⟩
                case measure => simp [RowKit.intOf]; omega
        · obtain rfl : j = m := by omega
          have h4 : ¬ (j : Int) < (j : Int) := by omega
          have hL : O.take j = O := List.take_of_length_le (by have := HO.out.1; omega)
          rw [hL] at hrel
          clear hL
          go_wp2_with fail
          go_ret
          exact ⟨aw, r, cw, rfl, hrel.out.1, hrel.out.2.1, hrel.out.2.2⟩
end Go.Proofs.YthcdkggkoanjpaaGreatDoor
namespace Go.Proofs.YthcdkggkoanjpaaGreatDoor
open Go.RowKit Go.Lib Go.Sort
def look (L : List Prm) (k : ByteArray) : Option ByteArray := (L.find? (fun o => decide (o.key = k))).map Prm.val
theorem findP_look (L : List Prm) (k : ByteArray) : findP L k = match look L k with | none => (⟨#[]⟩, false) | some v => (v, true) := by
  unfold findP look
  cases L.find? (fun o => decide (o.key = k)) <;> rfl
theorem look_cons (o : Prm) (L : List Prm) (k : ByteArray) : look (o :: L) k = if o.key = k then some o.val else look L k := by
  unfold look
  rw [List.find?_cons]
  by_cases h : o.key = k
  · simp [h]
  · simp [h]
theorem look_mem {L : List Prm} {k v : ByteArray} (h : look L k = some v) : ∃ z ∈ L, z.key = k ∧ z.val = v := by
  induction L with
  | nil => cases h
  | cons o L ih =>
    rw [look_cons] at h
    by_cases hk : o.key = k
    · rw [if_pos hk] at h
      exact ⟨o, by simp, hk, Option.some.inj h⟩
    · rw [if_neg hk] at h
      obtain ⟨z, hz, e⟩ := ih h
      exact ⟨z, by simp [hz], e⟩
theorem look_none {L : List Prm} {k : ByteArray} (h : ∀ z ∈ L, z.key ≠ k) : look L k = none := by
  induction L with
  | nil => rfl
  | cons o L ih =>
    rw [look_cons, if_neg (h o (by simp))]
    exact ih fun z hz => h z (by simp [hz])
theorem key_of {a b : Prm} (h : kOf a = kOf b) : a.key = b.key := text_inj' h
theorem kOf_asymm {a b : Prm} (h : kOf a < kOf b) : ¬ kOf b < kOf a := fun h2 => List.lt_irrefl _ (List.lt_trans h h2)
theorem kOf_total {a b : Prm} (h1 : ¬ kOf a < kOf b) (h2 : kOf a ≠ kOf b) : kOf b < kOf a := by
  rcases Std.le_iff_lt_or_eq.1 (List.not_lt.1 h1) with h | h
  · exact h
  · exact absurd h.symm h2
theorem look_put (x : Prm) (L : List Prm) (k : ByteArray) : look (putP x L) k = if x.key = k then some x.val else look L k := by
  induction L with
  | nil => rw [putP, look_cons]
  | cons y l ih =>
    unfold putP
    by_cases h1 : kOf y < kOf x
    · rw [if_pos h1, look_cons, look_cons, ih]
      by_cases hy : y.key = k
      · have hx : x.key ≠ k := fun hx => by
          have : kOf y = kOf x := by unfold kOf; rw [hy, hx]
          rw [this] at h1
          exact List.lt_irrefl _ h1
        simp [hy, hx]
      · by_cases hx : x.key = k
        · simp [hy, hx]
        · simp [hy, hx]
    · rw [if_neg h1]
      by_cases h2 : kOf y = kOf x
      · rw [if_pos h2, look_cons, look_cons]
        have hk := key_of h2
        by_cases hx : x.key = k
        · rw [if_pos hx, if_pos hx]
        · rw [if_neg hx, if_neg hx, if_neg (by rw [hk]; exact hx)]
      · rw [if_neg h2, look_cons]
theorem look_filter (a : ByteArray) (L : List Prm) (k : ByteArray) : look (L.filter fun y => !decide (y.key = a)) k = if a = k then none else look L k := by
  induction L with
  | nil => simp [look]
  | cons y l ih =>
    by_cases h : y.key = a
    · rw [List.filter_cons_of_neg (by simp [h]), ih, look_cons]
      by_cases hk : a = k
      · rw [if_pos hk, if_pos hk]
      · rw [if_neg hk, if_neg hk, if_neg (by rw [h]; exact hk)]
    · rw [List.filter_cons_of_pos (by simp [h]), look_cons, look_cons, ih]
      by_cases hy : y.key = k
      · rw [if_pos hy, if_neg (fun e => h (hy.trans e.symm)), if_pos hy]
      · rw [if_neg hy, if_neg hy]
def opAt (k : ByteArray) (d : Option ByteArray) (o : Opm) : Option ByteArray := if o.key = k then (if o.del = true then none else some o.val) else d
def lastO (O : List Opm) (k : ByteArray) (d : Option ByteArray) : Option ByteArray := O.foldl (opAt k) d
theorem look_step (l : List Prm) (o : Opm) (k : ByteArray) : look (stepP l o) k = opAt k (look l k) o := by
  unfold stepP opAt
  by_cases hd : o.del = true
  · rw [if_pos hd, if_pos hd, look_filter]
  · rw [if_neg hd, if_neg hd, look_put]
theorem look_steps (O : List Opm) (l : List Prm) (k : ByteArray) : look (O.foldl stepP l) k = lastO O k (look l k) := by
  induction O generalizing l with
  | nil => rfl
  | cons o O ih =>
    rw [List.foldl_cons, ih, look_step]
    rfl
theorem lastO_none {O : List Opm} {k : ByteArray} (h : ∀ o ∈ O, o.key ≠ k) (d : Option ByteArray) : lastO O k d = d := by
  induction O generalizing d with
  | nil => rfl
  | cons o O ih =>
    show lastO O k (opAt k d o) = d
    rw [ih (fun p hp => h p (by simp [hp]))]
    unfold opAt
    rw [if_neg (h o (by simp))]
theorem lastO_some {O : List Opm} {k : ByteArray} (h : ∃ o ∈ O, o.key = k) (d d' : Option ByteArray) : lastO O k d = lastO O k d' := by
  induction O generalizing d d' with
  | nil => obtain ⟨o, ho, _⟩ := h; cases ho
  | cons o O ih =>
    show lastO O k (opAt k d o) = lastO O k (opAt k d' o)
    by_cases hk : o.key = k
    · unfold opAt; rw [if_pos hk, if_pos hk]
    · obtain ⟨p, hp, e⟩ := h
      rcases List.mem_cons.1 hp with rfl | hp
      · exact absurd e hk
      · exact ih ⟨p, hp, e⟩ _ _
theorem lastO_again (O : List Opm) (k : ByteArray) (d : Option ByteArray) : lastO O k (lastO O k d) = lastO O k d := by
  by_cases h : ∃ o ∈ O, o.key = k
  · exact lastO_some h _ _
  · rw [lastO_none (fun o ho e => h ⟨o, ho, e⟩)]
theorem mem_put {x y : Prm} {L : List Prm} (h : y ∈ putP x L) : y = x ∨ y ∈ L := by
  induction L with
  | nil => left; simpa [putP] using h
  | cons z l ih =>
    unfold putP at h
    split at h
    · rcases List.mem_cons.1 h with rfl | h
      · right; simp
      · rcases ih h with h | h
        · exact .inl h
        · right; simp [h]
    · split at h
      · rcases List.mem_cons.1 h with h | h
        · exact .inl h
        · right; simp [h]
      · rcases List.mem_cons.1 h with h | h
        · exact .inl h
        · exact .inr h
theorem rise_put (x : Prm) {L : List Prm} (h : Rise L) : Rise (putP x L) := by
  induction L with
  | nil => simp [putP, Rise]
  | cons y l ih =>
    have hy := (List.pairwise_cons.1 h).1
    have hl : Rise l := (List.pairwise_cons.1 h).2
    unfold putP
    by_cases h1 : kOf y < kOf x
    · rw [if_pos h1]
      refine List.Pairwise.cons (fun z hz => ?_) (ih hl)
      rcases mem_put hz with rfl | hz
      · exact h1
      · exact hy z hz
    · rw [if_neg h1]
      by_cases h2 : kOf y = kOf x
      · rw [if_pos h2]
        exact List.Pairwise.cons (fun z hz => by rw [← h2]; exact hy z hz) hl
      · rw [if_neg h2]
        have hxy := kOf_total h1 h2
        refine List.Pairwise.cons (fun z hz => ?_) h
        rcases List.mem_cons.1 hz with rfl | hz
        · exact hxy
        · exact List.lt_trans hxy (hy z hz)
theorem rise_step {l : List Prm} (h : Rise l) (o : Opm) : Rise (stepP l o) := by
  unfold stepP
  split
  · exact List.Pairwise.filter _ h
  · exact rise_put _ h
theorem rise_ops {l : List Prm} (h : Rise l) (O : List Opm) : Rise (O.foldl stepP l) := by
  induction O generalizing l with
  | nil => exact h
  | cons o O ih => exact ih (rise_step h o)
theorem rise_base (L : List Prm) : Rise (baseP L) := by
  have : ∀ (L l : List Prm), Rise l → Rise (L.foldl (fun l x => putP x l) l) := by
    intro L
    induction L with
    | nil => intro l h; exact h
    | cons x L ih => intro l h; exact ih _ (rise_put x h)
  exact this L [] List.Pairwise.nil
theorem rise_apply (L : List Prm) (O : List Opm) : Rise (applyP L O) := rise_ops (rise_base L) O
theorem put_last {x : Prm} {l : List Prm} (h : ∀ y ∈ l, kOf y < kOf x) : putP x l = l ++ [x] := by
  induction l with
  | nil => rfl
  | cons y l ih =>
    unfold putP
    rw [if_pos (h y (by simp)), ih (fun z hz => h z (by simp [hz]))]
    rfl
theorem base_rise {L : List Prm} (h : Rise L) : baseP L = L := by
  have : ∀ (L M : List Prm), Rise (M ++ L) → L.foldl (fun l x => putP x l) M = M ++ L := by
    intro L
    induction L with
    | nil => intro M _; simp
    | cons x L ih =>
      intro M h
      have h1 : ∀ y ∈ M, kOf y < kOf x := fun y hy => (List.pairwise_append.1 h).2.2 y hy x (by simp)
      rw [List.foldl_cons, put_last h1, ih _ (by rw [List.append_assoc]; exact h), List.append_assoc]
      rfl
  exact this L [] (by simpa using h)
theorem ext_rise {L M : List Prm} (hL : Rise L) (hM : Rise M) (h : ∀ k, look L k = look M k) : L = M := by
  induction L generalizing M with
  | nil =>
    cases M with
    | nil => rfl
    | cons b M =>
      have := h b.key
      rw [look_cons, if_pos rfl] at this
      cases this
  | cons a L ih =>
    cases M with
    | nil =>
      have := h a.key
      rw [look_cons, if_pos rfl] at this
      cases this
    | cons b M =>
      have ha := (List.pairwise_cons.1 hL).1
      have hb := (List.pairwise_cons.1 hM).1
      have hab : a = b := by
        have h1 := h a.key
        have h2 := h b.key
        rw [look_cons, if_pos rfl, look_cons] at h1
        by_cases e : b.key = a.key
        · rw [if_pos e] at h1
          obtain ⟨ak, av⟩ := a
          obtain ⟨bk, bv'⟩ := b
          simp only [Option.some.injEq] at h1 e
          rw [h1, e]
        · exfalso
          rw [if_neg e] at h1
          rw [look_cons, if_neg (fun e2 => e e2.symm), look_cons, if_pos rfl] at h2
          obtain ⟨z, hz, ez, _⟩ := look_mem h1.symm
          obtain ⟨y, hy, ey, _⟩ := look_mem h2
          have k1 : kOf b < kOf a := by have := hb z hz; unfold kOf at *; rw [ez] at this; exact this
          have k2 : kOf a < kOf b := by have := ha y hy; unfold kOf at *; rw [ey] at this; exact this
          exact kOf_asymm k1 k2
      subst hab
      rw [ih (M := M) (List.pairwise_cons.1 hL).2 (List.pairwise_cons.1 hM).2 (fun k => ?_)]
      by_cases e : a.key = k
      · have n1 : ∀ z ∈ L, z.key ≠ k := fun z hz e2 => by
          have := ha z hz
          unfold kOf at this
          rw [e2, e] at this
          exact List.lt_irrefl _ this
        have n2 : ∀ z ∈ M, z.key ≠ k := fun z hz e2 => by
          have := hb z hz
          unfold kOf at this
          rw [e2, e] at this
          exact List.lt_irrefl _ this
        rw [look_none n1, look_none n2]
      · have := h k
        rw [look_cons, look_cons, if_neg e, if_neg e] at this
        exact this
theorem look_apply (L : List Prm) (O : List Opm) (k : ByteArray) : look (applyP L O) k = lastO O k (look (baseP L) k) := look_steps O _ k
theorem applyP_two (L : List Prm) (A B : List Opm) : applyP (applyP L A) B = applyP L (A ++ B) := by
  have h := base_rise (rise_apply L A)
  unfold applyP at *
  rw [h, List.foldl_append]
theorem applyP_again (L : List Prm) (O : List Opm) : applyP (applyP L O) O = applyP L O := by
  refine ext_rise (rise_apply _ _) (rise_apply _ _) fun k => ?_
  rw [look_apply, base_rise (rise_apply L O), look_apply, lastO_again]
def bulkQ (L : List Prm) : Nat := (L.map fun o => 1 + o.key.size + o.val.size).sum
theorem bulkQ_cons (o : Prm) (L : List Prm) : bulkQ (o :: L) = 1 + o.key.size + o.val.size + bulkQ L := by simp [bulkQ]
theorem bulkQ_put (x : Prm) (L : List Prm) : bulkQ (putP x L) ≤ 1 + x.key.size + x.val.size + bulkQ L := by
  induction L with
  | nil => simp [putP, bulkQ]
  | cons y l ih =>
    unfold putP
    split
    · rw [bulkQ_cons, bulkQ_cons]; omega
    · split
      · rw [bulkQ_cons, bulkQ_cons]; omega
      · rw [bulkQ_cons, bulkQ_cons]; omega
theorem bulkQ_base (L : List Prm) : bulkQ (baseP L) ≤ bulkQ L := by
  have : ∀ (L l : List Prm), bulkQ (L.foldl (fun l x => putP x l) l) ≤ bulkQ l + bulkQ L := by
    intro L
    induction L with
    | nil => intro l; simp [bulkQ]
    | cons x L ih =>
      intro l
      have h1 := ih (putP x l)
      have h2 := bulkQ_put x l
      rw [List.foldl_cons, bulkQ_cons]
      omega
  have := this L []
  have e : bulkQ [] = 0 := rfl
  unfold baseP
  omega
theorem apply_length (L : List Prm) (O : List Opm) : (applyP L O).length ≤ L.length + O.length := by have := applyP_length L O O.length; rwa [List.take_length] at this
end Go.Proofs.YthcdkggkoanjpaaGreatDoor
