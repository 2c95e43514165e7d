/- A list of texts made a set: slices.Clone, Sort, Compact, and the code's set. Numbers and types by name. -/
import Derived.Test.YtlgfijjkbomejaaGreatDoorLtb
import Derived.Sort.Walk0
import Derived.Test.YtlgfijjkbomejaaGreatDoorLxp
import Derived.Test.YtlgfijjkbomejaaGreatDoorQpe
import Derived.Test.YtlgfijjkbomejaaGreatDoorBel
import Derived.Lib.OwnBridge
/- Lists of texts in memory: read, and own ones. Numbers and types by name. -/
namespace Go.Proofs.YtlgfijjkbomejaaGreatDoor
open Go.RowKit Go.Lib
set_option maxRecDepth 100000

def sx (L : List (List UInt8)) : List Value := L.map fun s => .string (tx s)
theorem sx_length (L : List (List UInt8)) : (sx L).length = L.length := by simp [sx]
theorem sx_at {L : List (List UInt8)} {k : Nat} {s : List UInt8} (h : L[k]? = some s) : (sx L)[k]? = some (.string (tx s)) := by simp [sx, h]
theorem sx_one (L : List (List UInt8)) : ∀ u ∈ sx L, u.oneCell' = true := by
  intro u hu
  obtain ⟨s, _, rfl⟩ := List.mem_map.1 hu
  rfl
/-- A list of texts that is read. -/
def StrV (w : World) (v : Value) (n : Nat) (L : List (List UInt8)) : Prop := n = L.length ∧ n ≤ 1000000 ∧ Cells w v 1 n (sx L)
theorem StrV.shape {w : World} {v : Value} {n : Nat} {L : List (List UInt8)} (h : StrV w v n L) : ∃ ao c, v = .slice ao n c := by
  obtain ⟨_, _, ao, c, rfl, _⟩ := h
  exact ⟨ao, c, rfl⟩
theorem StrV.later {w w' : World} {v : Value} {n : Nat} {L : List (List UInt8)} (h : StrV w v n L) (hg : Grow w w') : StrV w' v n L := ⟨h.1, h.2.1, h.2.2.later hg⟩
theorem StrV.nil (w : World) : StrV w (.slice none 0 0) 0 [] := ⟨rfl, Nat.zero_le _, none, 0, rfl, rfl, Nat.le_refl _, fun _ => ⟨rfl, rfl⟩, fun a h => by cases h⟩
theorem StrV.at {w : World} {ao : Option Addr} {n c : Nat} {L : List (List UInt8)} (h : StrV w (.slice ao n c) n L) {k : Nat} (hk : k < n) : ∃ a s, ao = some a ∧ L[k]? = some s ∧ w.cell? (a.add k) = some (.string (tx s)) := by
  obtain ⟨h1, h2, ao', c', e, h0, hnc, hn, hc⟩ := h
  simp only [Value.slice.injEq] at e
  obtain ⟨rfl, _, rfl⟩ := e
  have hx : L[k]? = some (L[k]'(by omega)) := List.getElem?_eq_getElem (by omega)
  generalize L[k]'(by omega) = o at hx
  cases ao with
  | none => have := (hn rfl).1; omega
  | some a => exact ⟨a, o, rfl, hx, hc a rfl k _ (sx_at hx)⟩
/-- An own list of texts. -/
def OwnS (w : World) (base : Nat) (v : Value) (n : Nat) (L : List (List UInt8)) : Prop := n = L.length ∧ w.ownsRow base 9 1 v n (sx L)
theorem OwnS.nil (w : World) (base : Nat) : OwnS w base (.slice none 0 0) 0 [] := ⟨rfl, World.ownsRow_nil _ _ _ _⟩
theorem OwnS.read {w : World} {base : Nat} {v : Value} {n : Nat} {L : List (List UInt8)} (h : OwnS w base v n L) (hn : n ≤ 1000000) : StrV w v n L := ⟨h.1, hn, Cells.own h.2 (by decide)⟩
theorem OwnS.shape {w : World} {base : Nat} {v : Value} {n : Nat} {L : List (List UInt8)} (h : OwnS w base v n L) : ∃ ao c, v = .slice ao n c := owns_shape h.2
theorem OwnS.later {w w' : World} {base : Nat} {v : Value} {n : Nat} {L : List (List UInt8)} (h : OwnS w base v n L) (hg : Grow w w') : OwnS w' base v n L := ⟨h.1, own_chg (F := []) h.2 (Chg.of_below hg) (by simp)⟩
theorem OwnS.chg {w w' : World} {base : Nat} {v : Value} {n : Nat} {L : List (List UInt8)} {F : List Nat} (h : OwnS w base v n L) (hc : Chg F w w') (hF : ∀ k, v.ownBlock = some k → k ∉ F) : OwnS w' base v n L := ⟨h.1, own_chg h.2 hc hF⟩
theorem OwnS.base {w : World} {base base' : Nat} {v : Value} {n : Nat} {L : List (List UInt8)} (h : OwnS w base v n L) (hb : base' ≤ base) : OwnS w base' v n L := ⟨h.1, owns_base h.2 hb⟩
/-- The block of a row, or that there is none. -/
theorem OwnS.block {w : World} {base : Nat} {ao : Option Addr} {n c : Nat} {L : List (List UInt8)} (h : OwnS w base (.slice ao n c) n L) (hn : 0 < n) : ∃ g, ao = some ⟨g, 0, none⟩ ∧ base ≤ g ∧ g < w.heap.size := by
  rcases h.2.2 with ⟨e, rfl⟩ | ⟨g, cap, cur, e, hb, hg, _⟩
  · omega
  · cases e
    exact ⟨g, rfl, hb, (Array.getElem?_eq_some_iff.1 hg).1⟩
theorem OwnS.set {w : World} {base g n c : Nat} {L : List (List UInt8)} (h : OwnS w base (.slice (some ⟨g, 0, none⟩) n c) n L) (j : Nat) (s : List UInt8) : OwnS (w.setCell ⟨g, j, none⟩ (.string (tx s))) base (.slice (some ⟨g, 0, none⟩) n c) n (L.set j s) := by
  refine ⟨by rw [List.length_set]; exact h.1, ?_⟩
  have := own_setV h.2 j (.string (tx s))
  rw [show sx (L.set j s) = (sx L).set j (.string (tx s)) by simp [sx, List.map_set]]
  exact this
theorem OwnS.cell {w : World} {base g n c : Nat} {L : List (List UInt8)} (h : OwnS w base (.slice (some ⟨g, 0, none⟩) n c) n L) {j : Nat} {s : List UInt8} (hj : L[j]? = some s) : w.cell? ⟨g, j, none⟩ = some (.string (tx s)) ∧ w.frozen? ⟨g, j, none⟩ = false := own_cell h.2 (sx_at hj)

/-- What place tells: -1 where it is not there. -/
def plcT (L : List (List UInt8)) (s : List UInt8) : Int := if s ∈ L then (idxT L s : Int) else -1
theorem plcT_in {L : List (List UInt8)} {s : List UInt8} (h : s ∈ L) : plcT L s = idxT L s := if_pos h
theorem plcT_out {L : List (List UInt8)} {s : List UInt8} (h : s ∉ L) : plcT L s = -1 := if_neg h

/-- What lies between, in a row that gets one text more. -/
def midT (L : List (List UInt8)) (k : Nat) (x : List UInt8) : List (List UInt8) := L.take k ++ x :: L.drop k
theorem midT_set {L : List (List UInt8)} {k : Nat} {x y : List UInt8} (hk : k ≤ L.length) : (midT L k x).set k y = midT L k y := by
  unfold midT
  rw [List.set_append_right _ _ (by simp; omega)]
  simp [Nat.min_eq_left hk]
theorem midT_down {L : List (List UInt8)} {k : Nat} {x : List UInt8} (hx : L[k]? = some x) : midT L (k + 1) x = midT L k x := by
  unfold midT
  have h1 := take_next hx
  obtain ⟨hl, he⟩ := List.getElem?_eq_some_iff.1 hx
  rw [h1, List.drop_eq_getElem_cons hl, he]
  simp
theorem midT_get {L : List (List UInt8)} {k j : Nat} {x y : List UInt8} (hj : j < k) (hy : L[j]? = some y) : (midT L k x)[j]? = some y := by
  have hl := (List.getElem?_eq_some_iff.1 hy).1
  unfold midT
  rw [List.getElem?_append_left (by simp; omega), List.getElem?_take, if_pos hj, hy]
theorem midT_here {L : List (List UInt8)} {k : Nat} {x : List UInt8} (hk : k ≤ L.length) : (midT L k x)[k]? = some x := by
  unfold midT
  rw [List.getElem?_append_right (by simp; omega)]
  simp [Nat.min_eq_left hk]
theorem midT_length (L : List (List UInt8)) (k : Nat) (x : List UInt8) : (midT L k x).length = L.length + 1 := by
  unfold midT
  simp
  omega
theorem midT_end (L : List (List UInt8)) (x : List UInt8) : midT L L.length x = L ++ [x] := by
  unfold midT
  simp

end Go.Proofs.YtlgfijjkbomejaaGreatDoor

/- The reference's place and insert. Numbers and types by name. -/
namespace Go.Proofs.YtlgfijjkbomejaaGreatDoor
open Go.RowKit Go.Lib Go.Sort
set_option maxRecDepth 100000

theorem ref_plc (v : Value) (n : Nat) (L : List (List UInt8)) (s : List UInt8) (w : World) (h : StrV w v n L) :
    Calls Tryz.prog 56 #[v, .string (tx s)] w fun e w' => e = .returned (.int .i64 (plcT L s)) ∧ ∃ q, w' = w.drewN q := by
  obtain ⟨ao, c, rfl⟩ := h.shape
  have H := Lib.hid h
  have hm := h.2.1
  clear h
  go_enter Tryz.func56, Tryz.ntmps56
  go_wp2_with fail
  go_loopw [5] (fun i wr => ∃ k q : Nat, k ≤ n ∧ i = .int .i64 k ∧ Hid (∀ j, j < k → L[j]? ≠ some s) ∧ wr = w.drewN q)
    (fun i _ => n - (RowKit.intOf i).toNat)
  case atStart => exact ⟨0, 0, Nat.zero_le _, rfl, Lib.hid (fun j hj => by omega), rfl⟩
  case round =>
    obtain ⟨k, q, hk, rfl, hs, rfl⟩ := hrel
    by_cases h1 : k < n
    · have h3 : (k : Int) < (n : Int) := by omega
      obtain ⟨a, t, rfl, ht, hc⟩ := H.out.at h1
      have HT := Lib.hid ht
      clear ht
      have y1 := tx_list t
      by_cases he : t = s
      · subst he
        go_wp2_with fail
        go_ret
        rw [plcT_in (List.mem_of_getElem? HT.out), idxT_first HT.out hs.out]
        exact ⟨rfl, q, rfl⟩
      · have y2 := tx_list s
        have he2 : (t == s) = false := by simpa using he
        go_wp2_with fail
        refine ⟨⟨k + 1, q, by omega, by go_num, Lib.hid (fun j hj => ?_), rfl⟩, by simp [RowKit.intOf]; omega⟩
        by_cases hjk : j < k
        · exact hs.out j hjk
        · obtain rfl : j = k := by omega
          rw [HT.out]
          simpa using he
    · have h3 : ¬ (k : Int) < (n : Int) := by omega
      go_wp2_with fail
      go_ret
      rw [plcT_out fun hm => by
        obtain ⟨j, hj, he⟩ := List.getElem_of_mem hm
        have := H.out.1
        exact hs.out j (by omega) (by rw [List.getElem?_eq_getElem hj, he])]
      exact ⟨rfl, q, rfl⟩

/-- What a list that may have one text more tells. -/
def InsTold (w : World) (base : Nat) (v : Value) (L : List (List UInt8)) (e : Ending) (w' : World) : Prop :=
  ∃ ao m c, e = .returned (.slice ao m c) ∧ OwnS w' base (.slice ao m c) m L ∧ Chg (rowF v) w w' ∧ FromRow w v (.slice ao m c)

theorem str_lit (w : World) (s : List UInt8) : Cells (w.alloc (.cells #[.string (tx s)] 9)) (.slice (some ⟨w.heap.size, 0, none⟩) 1 1) 1 1 [.string (tx s)] := Cells.lit w [.string (tx s)] 9 (0, 0) 1 1 rfl

/-- Where a text belongs in a rising list. -/
theorem insT_place (L : List (List UInt8)) (s : List UInt8) : ∃ k, k ≤ L.length ∧ (∀ t, t < k → ∃ x, L[t]? = some x ∧ x < s) ∧ (∀ x, L[k]? = some x → ¬ x < s) := by
  refine ⟨L.findIdx (fun x => decide (¬ x < s)), List.findIdx_le_length, fun t ht => ?_, fun x hx => ?_⟩
  · have hl : t < L.length := Nat.lt_of_lt_of_le ht List.findIdx_le_length
    refine ⟨L[t], List.getElem?_eq_getElem hl, ?_⟩
    have := List.not_of_lt_findIdx ht
    simpa using this
  · obtain ⟨hl, he⟩ := List.getElem?_eq_some_iff.1 hx
    have := List.findIdx_getElem (w := hl)
    rw [he] at this
    simpa using this

set_option maxHeartbeats 4000000 in
theorem ref_ins (base : Nat) (v : Value) (n : Nat) (L : List (List UInt8)) (s : List UInt8) (w : World) (hown : OwnS w base v n L) (hb : base ≤ w.heap.size) (hn : n ≤ 100000) :
    Calls Tryz.prog 57 #[v, .string (tx s)] w (InsTold w base v (insT s L)) := by
  obtain ⟨ao, c, hv⟩ := hown.shape
  obtain ⟨P, hP⟩ : ∃ P, InsTold w base v (insT s L) = P := ⟨_, rfl⟩
  rw [hP]
  have HP := Lib.hid (And.intro hv hP)
  rw [hv] at hown ⊢
  have hm : n ≤ 9223372036854775807 := by omega
  obtain ⟨K, hK, hlow, hhi⟩ := insT_place L s
  have HI := Lib.hid (insT_at K hlow hhi)
  have hKn : K ≤ n := by have := hown.1; omega
  have HO := Lib.hid (And.intro hown (And.intro hb (And.intro hlow hhi)))
  have FL : Hid (n + 1 ≤ 1000000) := Lib.hid (by omega)
  have hRd := Lib.hid (hown.read (by omega))
  clear hown hb hlow hhi hK hv hP
  go_enter Tryz.func57, Tryz.ntmps57
  go_wp2_with fail
  go_loopw [5] (fun i wr => ∃ k q : Nat, k ≤ K ∧ i = .int .i64 k ∧ wr = w.drewN q)
    (fun i _ => K - (RowKit.intOf i).toNat)
  case atStart => exact ⟨0, 0, Nat.zero_le _, rfl, rfl⟩
  case round =>
    obtain ⟨k, q, hk, rfl, rfl⟩ := hrel
    by_cases h1 : k < K
    · have h2 : k < n := by omega
      have h3 : (k : Int) < (n : Int) := by omega
      obtain ⟨a, t, rfl, ht, hc⟩ := hRd.out.at h2
      have hbl : Op.bytesLess (tx t).toList (tx s).toList = true := by
        obtain ⟨x, hx, hlt⟩ := HO.out.2.2.1 k h1
        rw [ht] at hx
        cases hx
        rw [tx_list, tx_list, bytesLess_eq]
        simpa using hlt
      clear ht
      go_wp2_with fail
      exact ⟨⟨k + 1, _, by omega, by simp, rfl⟩, by simp [RowKit.intOf]; omega⟩
    · obtain rfl : k = K := by omega
      by_cases hk2 : k < n
      case' pos =>
        have h3 : (k : Int) < (n : Int) := by omega
        obtain ⟨a, t, rfl, ht, hc⟩ := hRd.out.at hk2
        have hbl : Op.bytesLess (tx t).toList (tx s).toList = false := by
          rw [tx_list, tx_list, bytesLess_eq]
          simpa using HO.out.2.2.2 t ht
        by_cases he : t = s
        case' pos =>
          subst he
          have HT := Lib.hid ht
          clear ht
          go_wp2_with fail
          rw [← HP.out.2, HP.out.1, HI.out, if_pos HT.out]
          exact ⟨some a, n, c, rfl, HO.out.1, (Chg.refl _ w).drewN _, FromRow.refl _ _⟩
        case' neg =>
          have hbe2 : ¬ (tx t).toList = (tx s).toList := by rw [tx_list, tx_list]; exact he
          have hbe : ((tx t).toList == (tx s).toList) = false := by simpa using hbe2
          have HN : Hid (insT s L = L.take k ++ s :: L.drop k) := Lib.hid (by rw [HI.out, if_neg (by rw [ht]; simpa using he)])
          clear ht HI
      case' neg =>
        have h3 : ¬ (k : Int) < (n : Int) := by omega
        have HN : Hid (insT s L = L.take k ++ s :: L.drop k) := Lib.hid (by rw [HI.out, if_neg (by rw [List.getElem?_eq_none (by have := HO.out.1.1; omega)]; simp)])
        clear HI
      all_goals
        go_wp2_with (at_builtin; go_loud (refine wpList_append_gen elemStr rfl (.tmp 34) (.tmp 35) rfl base _ n (sx L) rfl (own_chg (F := []) HO.out.1.2 ((Chg.refl _ w).drewN _ |>.alloc _) (by simp)) _ 1 [.string (tx [])] rfl (str_lit _ []) (by intro u hu; simp at hu; subst hu; rfl) (n + 1) rfl FL (by decide) (by have := HO.out.2.1; simp; omega) ?_; intro ao6 c6 w6 hown6 hb6 hg6 ho6; have HA := Lib.hid (And.intro hown6 (And.intro hg6 ho6)); clear hown6 hb6 hg6 ho6))
        have HB : Hid (∃ g, ao6 = some ⟨g, 0, none⟩ ∧ base ≤ g ∧ (g ∈ rowF v ∨ w.heap.size ≤ g) ∧ OwnS w6 base (.slice ao6 (n + 1) c6) (n + 1) (midT L n []) ∧ Chg (rowF v) w w6 ∧ FromRow w v (.slice ao6 (n + 1) c6)) := Lib.hid (by
          obtain ⟨hown6, hg6, ho6⟩ := HA.out
          have hnl := HO.out.1.1
          have hO : OwnS w6 base (.slice ao6 (n + 1) c6) (n + 1) (midT L n []) := by
            rw [hnl, midT_end]
            refine ⟨by simp, ?_⟩
            have e : sx (L ++ [[]]) = sx L ++ [.string (tx [])] := by simp [sx]
            rw [e, ← hnl]
            exact hown6
          have hfr : FromRow w v (.slice ao6 (n + 1) c6) := by
            rw [HP.out.1]
            rcases ho6 with h | h
            · exact .inl h
            · exact .inr fun k hk => by
                have e := h.symm.trans hk
                simp at e
                omega
          have hch : Chg (rowF v) w w6 := by
            rw [HP.out.1]
            exact (((Chg.refl _ w).drewN _).alloc _).trans (Chg.of_grown hg6 fun k hk => rowF_mem.2 hk)
          obtain ⟨g, rfl, hbg, _⟩ := hO.block (by omega)
          exact ⟨g, rfl, hbg, hfr.mem (rowF_mem.2 rfl) (fun y hy => hy), hO, hch, hfr⟩)
        clear HA h3 hk2
        obtain ⟨g, rfl, hbg, hgF, hO6, hC6, hF6⟩ := HB.out
        have HX := Lib.hid (And.intro hO6 hC6)
        have HY := Lib.hid (And.intro hbg (And.intro hgF hF6))
        clear HB hbg hgF hO6 hC6 hF6
        have u0 : wrap64 (((n + 1 : Nat) : Int) - 1) = (n : Int) := by unfold wrap64; omega
        have u1 : wrap64 ((n : Int) + 1 - 1) = (n : Int) := by unfold wrap64; omega
        go_wp2_with fail
        go_loopw [6] (fun i wr => ∃ p : Nat, k ≤ p ∧ p ≤ n ∧ i = .int .i64 p ∧ Hid (∃ x, OwnS wr base (.slice (some ⟨g, 0, none⟩) (n + 1) c6) (n + 1) (midT L p x) ∧ Chg (rowF v) w wr))
          (fun i _ => (RowKit.intOf i).toNat)
        case atStart => exact ⟨n, by omega, Nat.le_refl _, by simp, Lib.hid ⟨[], HX.out⟩⟩
        case round =>
          obtain ⟨p, hkp, hpn, rfl, hrel⟩ := hrel
          clear HX u0 u1
          by_cases hlt : k < p
          · obtain ⟨p, rfl⟩ : ∃ p', p = p' + 1 := ⟨p - 1, by omega⟩
            have h3 : (k : Int) < ((p + 1 : Nat) : Int) := by omega
            have h3' : (k : Int) < (p : Int) + 1 := by omega
            obtain ⟨x, hOx, hCx⟩ := hrel.out
            obtain ⟨y, hy⟩ : ∃ y, L[p]? = some y := ⟨_, List.getElem?_eq_getElem (by have := HO.out.1.1; omega)⟩
            obtain ⟨k1, _⟩ := hOx.cell (midT_get (x := x) (by omega) hy)
            obtain ⟨m1, f1⟩ := hOx.cell (midT_here (x := x) (by have := HO.out.1.1; omega))
            have u2 : wrap64 ((p : Int) + 1 - 1) = (p : Int) := by unfold wrap64; omega
            have u3 : (0 : Int) ≤ (p : Int) + 1 := by omega
            have u4 : ((p : Int) + 1).toNat = p + 1 := by omega
            have u5 : (p : Int) + 1 < (n : Int) + 1 := by omega
            have u6 : (p : Int) < (n : Int) + 1 := by omega
            have u7 : p < n + 1 := by omega
            have u8 : p + 1 < n + 1 := by omega
            have HZ := Lib.hid (And.intro hOx (And.intro hCx hy))
            clear hOx hCx hy
            go_wp2_with fail
            refine ⟨⟨p, by omega, by omega, by first | rfl | simp, Lib.hid ⟨y, ?_, HZ.out.2.1.set HY.out.2.1 _ _⟩⟩, by simp [RowKit.intOf]⟩
            have := HZ.out.1.set (p + 1) y
            rw [midT_set (by have := HO.out.1.1; omega), midT_down HZ.out.2.2] at this
            exact this
          · obtain rfl : p = k := by omega
            have h3 : ¬ (p : Int) < (p : Int) := by omega
            have u6 : (p : Int) < (n : Int) + 1 := by omega
            have u7 : p < n + 1 := by omega
            obtain ⟨x, hOx, hCx⟩ := hrel.out
            obtain ⟨m1, f1⟩ := hOx.cell (midT_here (x := x) (by have := HO.out.1.1; omega))
            have HZ := Lib.hid (And.intro hOx hCx)
            clear hOx hCx
            go_wp2_with fail
            rw [← HP.out.2]
            refine ⟨some ⟨g, 0, none⟩, n + 1, c6, rfl, ?_, HZ.out.2.set HY.out.2.1 _ _, HY.out.2.2⟩
            have := HZ.out.1.set p s
            rw [midT_set (by have := HO.out.1.1; omega)] at this
            rw [HN.out]
            exact this

end Go.Proofs.YtlgfijjkbomejaaGreatDoor

namespace Go.Proofs.YtlgfijjkbomejaaGreatDoor
open Go.RowKit Go.Lib Go.Sort
set_option maxRecDepth 100000

theorem encS (L : List (List UInt8)) : L.map encStr = sx L := rfl

/-- A copy. -/
theorem clone_str (v : Value) (n : Nat) (L : List (List UInt8)) (w : World) (h : StrV w v n L) :
    Calls Tryz.prog 99 #[v] w fun e w' => ∃ u, e = .returned u ∧ OwnS w' w.heap.size u n L ∧ Grow w w' := by
  obtain ⟨ao, c, rfl⟩ := h.shape
  cases ao with
  | none =>
    have h0 : n = 0 := by
      obtain ⟨_, _, _, _, e, _, _, h0, _⟩ := h
      simp only [Value.slice.injEq] at e
      obtain ⟨rfl, _, _⟩ := e
      exact (h0 rfl).1
    subst h0
    obtain rfl : L = [] := List.eq_nil_of_length_eq_zero h.1.symm
    have q22 : ∀ (w : World) (a : Option Addr) (n c n' c' : Nat), (binOp .eql 36 (.slice a n c) (.slice none n' c')).run Tryz.prog w = .ok (.bool a.isNone) w := fun w a n c n' c' => Lib.run_eql_slice_nil w _ _ a n c n' c' Tryz.underlying36
    go_enter Tryz.func99, Tryz.ntmps99
    go_wp2_with fail
    go_ret
    exact ⟨_, rfl, OwnS.nil _ _, Grow.refl w⟩
  | some a =>
    have FK : Hid (n ≤ 1000000) := Lib.hid h.2.1
    have HN := Lib.hid h.1
    have HC : Hid (Cells (w.alloc (.cells #[] 9)) (.slice (some a) n c) 1 n (sx L)) := Lib.hid (h.2.2.later ((Below.refl _ w).alloc (Nat.le_refl _) _))
    have HO : Hid ((w.alloc (.cells #[] 9)).ownsRow w.heap.size 9 1 (.slice (some ⟨w.heap.size, 0, none⟩) 0 0) 0 []) := Lib.hid ⟨rfl, .inr ⟨_, _, _, rfl, Nat.le_refl _, heap_alloc_new _ _, Nat.le_refl _, Nat.zero_le _, rfl, rfl⟩⟩
    clear h
    have q22 : ∀ (w : World) (a : Option Addr) (n c n' c' : Nat), (binOp .eql 36 (.slice a n c) (.slice none n' c')).run Tryz.prog w = .ok (.bool a.isNone) w := fun w a n c n' c' => Lib.run_eql_slice_nil w _ _ a n c n' c' Tryz.underlying36
    go_enter Tryz.func99, Tryz.ntmps99
    go_wp2_with (at_builtin; refine wpList_append_gen elemStr rfl (.tmp 5) (.tmp 6) rfl w.heap.size _ 0 [] rfl HO.out _ n (sx L) rfl HC.out (sx_one L) n (by omega) (Lib.hid (by have := FK.out; omega)) (by have := FK.out; omega) (by simp) ?_; intro ao6 c6 w6 hown6 hb6 hg6 ho6; have HW : Hid (OwnS w6 w.heap.size (.slice ao6 n c6) n L ∧ Grow w w6) := Lib.hid ⟨⟨HN.out, by simpa using hown6⟩, Below.trans ((Below.refl _ w).alloc (Nat.le_refl _) _) hb6⟩; clear hown6 hb6 hg6 ho6)
    go_ret
    exact ⟨_, rfl, HW.out.1, HW.out.2⟩

theorem below_growT {B : Nat} {a w : World} (h : Below B a w) (hB : B ≤ a.heap.size) (os : Array Obj) : Below B a (grow w os) :=
  ⟨h.os, h.tape, h.output, by have := h.size; simp [grow]; omega, fun k hk => by
    rw [heap_grow_old _ _ (by have := h.size; omega)]
    exact h.block k hk⟩
theorem compact_len (M : List B8) : (Lib.compact M).length ≤ M.length := by
  unfold Lib.compact compactUpTo
  rw [List.length_map]
  exact Nat.le_trans (List.length_filter_le _ _) (by simp)

/-- What set tells: the list's set, in new memory. -/
def SetTold (w : World) (L : List B8) (e : Ending) (w' : World) : Prop := ∃ u m, e = .returned u ∧ OwnS w' w.heap.size u m (setF L) ∧ Grow w w'
set_option maxHeartbeats 2000000 in
theorem set_str (v : Value) (n : Nat) (L : List B8) (w : World) (h : StrV w v n L) :
    Calls Tryz.prog 55 #[v] w (SetTold w L) := by
  have P1 := clone_str v n L w h
  have hn := h.2.1
  have HNL := Lib.hid h.1
  clear h
  obtain ⟨Q, hQ⟩ : ∃ Q, SetTold w L = Q := ⟨_, rfl⟩
  rw [hQ]
  have HQ := Lib.hid hQ
  clear hQ
  go_enter Tryz.func55, Tryz.ntmps55
  go_wp2_with fail
  refine P1.mono ?_
  rintro e w1 ⟨u, rfl, hO, hg⟩
  obtain ⟨ao, c, rfl⟩ := hO.shape
  by_cases h0 : n = 0
  · subst h0
    obtain rfl : L = [] := List.eq_nil_of_length_eq_zero HNL.out.symm
    have P2 := AnyM.slices_Sort_string_none Tryz.sort8 ao c w1
    have P3 := AnyG.slices_Compact_string_empty Tryz.comp8 ao c w1
    have HE : Hid (Q (.returned (.slice ao 0 c)) w1) := Lib.hid (by rw [← HQ.out]; exact ⟨_, _, rfl, hO, hg⟩)
    clear hO hg P1
    go_wp2_with fail
    refine Calls.mono P2 ?_
    rintro e w2 ⟨rfl, rfl⟩
    go_wp2_with fail
    refine Calls.mono P3 ?_
    rintro e w3 ⟨rfl, rfl⟩
    go_wp2_with fail
    exact HE.out
  · have hne : Value.slice ao n c ≠ .slice none 0 0 := fun e => by
      simp only [Value.slice.injEq] at e
      exact h0 e.2.1
    obtain ⟨g, cap, e, hbg, hlt, hnc, hcm, hl, hH⟩ := holds_of_ownsRow (enc := encStr) (zs := L) hO.2 hne
    simp only [Value.slice.injEq] at e
    obtain ⟨rfl, _, rfl⟩ := e
    obtain ⟨M, hM⟩ : ∃ M, (L.mergeSort fun x y => decide (x ≤ y)) = M := ⟨_, rfl⟩
    have hML : M.length = n := by rw [← hM, List.length_mergeSort]; exact hl
    have P2 := AnyM.slices_Sort_string Tryz.sort8 g 0 c L w1 hH hlt (by omega)
    rw [hM, hl] at P2
    have HO := Lib.hid (And.intro hO (And.intro hbg (And.intro hg (And.intro hM (And.intro hnc hl)))))
    clear hO hH hg hM P1 hne
    go_wp2_with fail
    refine Calls.mono P2 ?_
    rintro e w2 ⟨rfl, q, os, hw2⟩
    have hO2 : OwnS w2 w.heap.size (.slice (some ⟨g, 0, none⟩) n c) n M := by
      have h1 := ownsRow_putRow (enc := encStr) (q := q) (k := n) (ys := M) (zs := L) HO.out.1.2 hML (Nat.le_refl _)
      rw [show M.take n = M by rw [← hML]; exact List.take_length] at h1
      refine ⟨hML.symm, ?_⟩
      rw [hw2]
      exact own_chg (F := []) h1 (Chg.of_below (below_growT (Below.refl _ _) (Nat.le_refl _) os)) (by simp)
    have hg2 : Grow w w2 := by
      rw [hw2]
      exact below_growT (below_putRow HO.out.2.2.1 HO.out.2.1) (Nat.le_refl _) os
    clear hw2 P2
    obtain ⟨g', cap', e, _, hlt2, _, _, _, hH2⟩ := holds_of_ownsRow (enc := encStr) (zs := M) hO2.2 (by simp)
    simp only [Value.slice.injEq, Option.some.injEq, Addr.mk.injEq, and_true, true_and] at e
    obtain ⟨rfl, rfl⟩ := e
    have P3 := AnyG.slices_Compact_string Tryz.comp8 g 0 c M w2 hH2 (by omega) (by omega)
    have hcs : Lib.compact M = setF L := by rw [← HO.out.2.2.2.1]; exact compact_sort L
    have hck := compact_len M
    rw [hcs] at P3 hck
    rw [hML] at P3
    have HE : Hid (∀ q, Q (.returned (.slice (some ⟨g, 0, none⟩) (setF L).length c)) (putRow encStr (Sort.ahead w2 q) g 0 (setF L ++ List.replicate (n - (setF L).length) []).toArray)) := Lib.hid fun q => by
      rw [← HQ.out]
      have h1 := ownsRow_putRow (enc := encStr) (q := q) (k := (setF L).length) (ys := setF L ++ List.replicate (n - (setF L).length) []) (zs := M) hO2.2 (by simp; omega) (by omega)
      rw [List.take_left] at h1
      exact ⟨_, _, rfl, ⟨rfl, h1⟩, below_putRow hg2 HO.out.2.1⟩
    clear hO2 hg2 hH2 hcs hck
    go_wp2_with fail
    refine Calls.mono P3 ?_
    rintro e w3 ⟨rfl, q3, rfl⟩
    go_wp2_with fail
    exact HE.out q3

end Go.Proofs.YtlgfijjkbomejaaGreatDoor
