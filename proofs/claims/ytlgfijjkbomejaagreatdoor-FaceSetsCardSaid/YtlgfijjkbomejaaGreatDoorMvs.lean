/- Regions that draw their order and end with an operation that may write what was there: one walk. Numbers and types by name. -/
import Derived.Test.YtlgfijjkbomejaaGreatDoorFcc
import Derived.Test.YtlgfijjkbomejaaGreatDoorLxp
import Derived.Test.YtlgfijjkbomejaaGreatDoorFcb
import Derived.Test.YtlgfijjkbomejaaGreatDoorBel
/- The code's has, Union and Within. Numbers and types by name. -/
namespace Go.Proofs.YtlgfijjkbomejaaGreatDoor
open Go.RowKit Go.Lib Go.Sort
set_option maxRecDepth 100000

theorem place_of : ∀ (L : List B8) (s : B8), RiseT L → ∃ K, K ≤ L.length ∧ (∀ t, t < K → ∃ x, L[t]? = some x ∧ x < s) ∧ (∀ x, L[K]? = some x → ¬ x < s) ∧ decide (L[K]? = some s) = decide (s ∈ L)
  | [], s, _ => ⟨0, Nat.le_refl _, fun t h => by omega, fun x h => by simp at h, by simp⟩
  | x :: L, s, h => by
    obtain ⟨h1, h2⟩ := List.pairwise_cons.1 h
    by_cases hx : x < s
    · obtain ⟨K, k1, k2, k3, k4⟩ := place_of L s h2
      refine ⟨K + 1, by simp; omega, fun t ht => ?_, fun y hy => k3 y (by simpa using hy), ?_⟩
      · cases t with
        | zero => exact ⟨x, rfl, hx⟩
        | succ t => simpa using k2 t (by omega)
      · rw [List.getElem?_cons_succ, k4]
        have : s ≠ x := fun e => lt_irr8 x (by rw [e] at hx; exact hx)
        simp [this]
    · refine ⟨0, Nat.zero_le _, fun t ht => by omega, fun y hy => ?_, ?_⟩
      · simp only [List.getElem?_cons_zero, Option.some.injEq] at hy
        rw [← hy]
        exact hx
      · rw [List.getElem?_cons_zero]
        by_cases e : x = s
        · simp [e]
        · have : s ∉ L := fun hm => hx (h1 s hm)
          have e2 : ¬ s = x := fun e3 => e e3.symm
          simp [e, e2, this]
theorem has_str (base : Nat) (ao : Option Addr) (n c : Nat) (L : List B8) (s : B8) (w : World) (h : OwnS w base (.slice ao n c) n L) (hn : n ≤ 100000) (hR : RiseT L) :
    Calls Tryz.prog 60 #[.slice ao n c, .string (tx s)] w fun e w' => e = .returned (.bool (decide (s ∈ L))) ∧ ∃ q, w' = w.drewN q := by
  obtain ⟨K, k1, k2, k3, k4⟩ := place_of L s hR
  have P := sea_str base ao n c K L s w h hn hR k2 k3 (by rw [h.1]; exact k1)
  rw [k4] at P
  clear k1 k2 k3 k4 h hR
  go_enter Tryz.func60, Tryz.ntmps60
  go_wp2_with (go_at_call 103; refine P.mono ?_; rintro e w' ⟨rfl, q, rfl⟩)
  go_ret
  exact ⟨rfl, q, rfl⟩

theorem addr_none {w : World} {a : Addr} {u : Value} (h : w.cell? a = some u) : a = ⟨a.block, a.off, none⟩ := by
  obtain ⟨b, o, f⟩ := a
  cases f with
  | none => rfl
  | some f =>
    simp only [World.cell?] at h
    split at h <;> simp at h

/-- What Union tells. -/
theorem code_union (v1 v2 : Value) (n1 n2 : Nat) (A B : List B8) (w : World) (h1 : StrV w v1 n1 A) (h2 : StrV w v2 n2 B) (hb : n1 + n2 ≤ 1000000) :
    Calls Tryz.prog 21 #[v1, v2] w fun e w' => ∃ u m, e = .returned u ∧ OwnS w' w.heap.size u m (uniT A B) ∧ Grow w w' := by
  obtain ⟨a1, c1, rfl⟩ := h1.shape
  obtain ⟨a2, c2, rfl⟩ := h2.shape
  have P1 := set_str _ n1 A w h1
  have D2 := Lib.hid (fun (W : World) (hg : Grow w W) => set_str _ n2 B W (h2.later hg))
  have HL := Lib.hid (And.intro h1.1 h2.1)
  clear h1 h2
  go_enter Tryz.func21, Tryz.ntmps21
  go_wp2_with (first | (have _ := G1.out; go_at_call 55; refine (D2.out _ G1.out.2).mono ?_; rintro e w4 ⟨u2, m2, rfl, ho2, hg2⟩; obtain ⟨ax2, cx2, rfl⟩ := ho2.shape; have G2 := Lib.hid (And.intro ho2 hg2); clear ho2 hg2) | (go_at_call 55; refine P1.mono ?_; rintro e w3 ⟨u1, m1, rfl, ho1, hg1⟩; obtain ⟨ax1, cx1, rfl⟩ := ho1.shape; have G1 : Hid (OwnS w3 w.heap.size (.slice ax1 m1 cx1) m1 (setF A) ∧ Grow w w3) := Lib.hid ⟨ho1, hg1⟩; clear ho1 hg1) | (go_at_call 54; refine (merge_str _ _ m1 m2 (setF A) (setF B) _ ((G1.out.1.read (by have := setF_len A; have := G1.out.1.1; have := HL.out.1; omega)).later G2.out.2) (G2.out.1.read (by have := setF_len B; have := G2.out.1.1; have := HL.out.2; omega)) (by have := setF_len A; have := G1.out.1.1; have := setF_len B; have := G2.out.1.1; have := HL.out.1; have := HL.out.2; omega)).mono ?_; rintro e w5 ⟨u3, m3, rfl, ho3, hg3⟩; have G3 := Lib.hid (And.intro ho3 hg3); clear ho3 hg3))
  go_ret
  refine ⟨_, m3, rfl, ?_, Grow.trans G1.out.2 (Grow.trans G2.out.2 G3.out.2)⟩
  have := G3.out.1
  rw [merge_uni] at this
  exact this.base (by have := G1.out.2.size; have := G2.out.2.size; omega)

def withT (A B : List B8) : Bool := A.all fun x => decide (x ∈ B)

theorem within_fn (pb : Nat) (base : Nat) (ao : Option Addr) (n c : Nat) (L : List B8) (s : B8) (w : World) (hc : w.cell? ⟨pb, 0, none⟩ = some (.slice ao n c)) (h : OwnS w base (.slice ao n c) n L) (hn : n ≤ 100000) (hR : RiseT L) :
    Calls Tryz.prog 59 #[.string (tx s), .pointer (some ⟨pb, 0, none⟩)] w fun e w' => e = .returned (.bool (!decide (s ∈ L))) ∧ ∃ q, w' = w.drewN q := by
  have P := has_str base ao n c L s w h hn hR
  obtain ⟨b, hb⟩ : ∃ b, decide (s ∈ L) = b := ⟨_, rfl⟩
  rw [hb] at P ⊢
  clear h hR hb
  go_enter Tryz.func59, Tryz.ntmps59
  go_wp2_with (go_at_call 60; refine P.mono ?_; rintro e w' ⟨rfl, q, rfl⟩)
  go_ret
  exact ⟨rfl, q, rfl⟩

set_option maxHeartbeats 2000000 in
theorem code_within (v1 v2 : Value) (n1 n2 : Nat) (A B : List B8) (w : World) (h1 : StrV w v1 n1 A) (h2 : StrV w v2 n2 B) (hb : n2 ≤ 100000) :
    Calls Tryz.prog 25 #[v1, v2] w fun e w' => e = .returned (.bool (withT A B)) ∧ Grow w w' := by
  obtain ⟨a1, c1, rfl⟩ := h1.shape
  obtain ⟨a2, c2, rfl⟩ := h2.shape
  have P1 := set_str _ n2 B w h2
  have H1 := Lib.hid h1
  have HL := Lib.hid (And.intro h1.1 h2.1)
  have hw : (!(A.any fun x => !decide (x ∈ setF B))) = withT A B := by
    unfold withT
    rw [List.not_any_eq_all_not]
    congr 1
    funext x
    rw [Bool.not_not]
    congr 1
    exact propext setF_mem
  obtain ⟨r, hr⟩ : ∃ r, (A.any fun x => !decide (x ∈ setF B)) = r := ⟨_, rfl⟩
  rw [hr] at hw
  have HR := Lib.hid hr
  clear h1 h2 hr
  go_enter Tryz.func25, Tryz.ntmps25
  go_wp2_with fail
  refine P1.mono ?_
  rintro e w1 ⟨u, m, rfl, ho, hg⟩
  obtain ⟨ao, c, rfl⟩ := ho.shape
  obtain ⟨W, hW⟩ : ∃ W, w1.alloc (.cells #[.slice ao m c] 36) = W := ⟨_, rfl⟩
  have hgW : Grow w1 W := by rw [← hW]; exact (Below.refl _ _).alloc (Nat.le_refl _) _
  have hcell : W.heap[w1.heap.size]? = some (.cells #[.slice ao m c] 36) := by rw [← hW]; exact heap_alloc_new _ _
  have HG := Lib.hid (Grow.trans hg hgW)
  have hmB : m ≤ 100000 := by have := setF_len B; have := ho.1; have := HL.out.2; omega
  have P2 : Calls Tryz.prog 58 #[.slice a1 n1 c1, .func (.func 59) #[] #[.pointer (some ⟨w1.heap.size, 0, none⟩)]] W fun e w' => e = .returned (.bool r) ∧ Grow W w' := by
    by_cases h0 : n1 = 0
    · subst h0
      have hA : A = [] := List.eq_nil_of_length_eq_zero HL.out.1.symm
      have hr0 : r = false := by rw [← HR.out, hA]; rfl
      rw [hr0]
      refine Calls.mono (AnyE.slices_ContainsFunc_empty Tryz.cont8 a1 c1 _ W) ?_
      rintro e w' ⟨rfl, rfl⟩
      exact ⟨rfl, Grow.refl _⟩
    · have hV := (H1.out.later HG.out)
      obtain ⟨a, s0, rfl, _, hc0⟩ := hV.at (k := 0) (by omega)
      rw [show a.add 0 = a from by cases a; rfl] at hc0
      obtain ⟨ab, ao1, rfl⟩ : ∃ b o, a = ⟨b, o, none⟩ := ⟨_, _, addr_none hc0⟩
      have eg : ∀ args w, (callFunc 59 args).run Tryz.prog w = .ok (.enter 59 args) w := enters_of Tryz.func59 (by kernel_rfl) rfl
      have hp : PredAt Tryz.prog 59 #[.pointer (some ⟨w1.heap.size, 0, none⟩)] (fun s : B8 => Value.string (tx s)) (fun x => !decide (x ∈ setF B)) W := fun W' x hg' => within_fn w1.heap.size w.heap.size ao m c (setF B) x W' (cellsN ((hg'.block _ (Array.getElem?_eq_some_iff.1 hcell).1).trans hcell) 0 _ rfl) (ho.later (Grow.trans hgW hg')) hmB (setF_rise B)
      have hcon := AnyE.slices_ContainsFunc Tryz.cont8 (fun s : B8 => Value.string (tx s)) (fun x => !decide (x ∈ setF B)) 59 #[.pointer (some ⟨w1.heap.size, 0, none⟩)] eg ab ao1 n1 c1 A W hp (by rw [HL.out.1]; exact Nat.le_refl _) (by have := hV.2.1; omega) (fun j hj => by
        obtain ⟨a', s', e', hs', hc'⟩ := hV.at (k := j) (by rw [HL.out.1]; exact hj)
        cases e'
        rw [getElem!_pos A j hj]
        rw [List.getElem?_eq_getElem hj] at hs'
        cases hs'
        rw [← hc']
        congr 1
        unfold Addr.add
        split
        · next h =>
          subst h
          rfl
        · rfl)
      rw [HL.out.1, List.take_length, HR.out, ← HL.out.1] at hcon
      refine Calls.mono hcon ?_
      rintro e w' ⟨rfl, q, rfl⟩
      exact ⟨rfl, below_drewN (Grow.refl _) q⟩
  have HW := Lib.hid hW
  clear ho hg hgW hcell hmB P1 hW
  go_upto_region 2 with fail
  rw [HW.out]
  go_wp2_with (go_at_call 58; refine P2.mono ?_; rintro e w' ⟨rfl, hg9⟩; have G9 := Lib.hid hg9; clear hg9)
  go_ret
  exact ⟨rfl, Grow.trans HG.out G9.out⟩

end Go.Proofs.YtlgfijjkbomejaaGreatDoor

/- The reference's Union, Within and Has. Numbers and types by name. -/
namespace Go.Proofs.YtlgfijjkbomejaaGreatDoor
open Go.RowKit Go.Lib
set_option maxRecDepth 100000

theorem row_growF {w W w2 : World} {v : Value} {m : Nat} {L : List (List UInt8)} (h : Grow w W) (ho : OwnS W w.heap.size v m L) (hc : Chg (rowF v) W w2) : Grow w w2 :=
  Below.trans h (hc.below h.size fun x hx => (ho.2.lt x (rowF_mem.1 hx)).1)
theorem intoT_take {A L : List B8} {k : Nat} {s : B8} (h : A[k]? = some s) : intoT (A.take (k + 1)) L = insT s (intoT (A.take k) L) := by
  rw [List.take_add_one, h, Option.toList_some, intoT_append]
  rfl
set_option maxHeartbeats 4000000 in
theorem ref_union (v1 v2 : Value) (n1 n2 : Nat) (A B : List B8) (w : World) (h1 : StrV w v1 n1 A) (h2 : StrV w v2 n2 B) (hb : n1 + n2 ≤ 100000) :
    Calls Tryz.prog 24 #[v1, v2] w fun e w' => ∃ u m, e = .returned u ∧ OwnS w' w.heap.size u m (uniT A B) ∧ Grow w w' := by
  obtain ⟨a1, c1, rfl⟩ := h1.shape
  obtain ⟨a2, c2, rfl⟩ := h2.shape
  have H1 := Lib.hid h1
  have H2 := Lib.hid h2
  have hA := Lib.hid h1.1
  have hB := Lib.hid h2.1
  clear h1 h2
  go_enter Tryz.func24, Tryz.ntmps24
  go_wp2_with fail
  go_loopw [5, 6] (fun r i wr => ∃ k m : Nat, k ≤ n1 ∧ i = .int .i64 k ∧ Hid (OwnS wr w.heap.size r m (intoT (A.take k) []) ∧ Grow w wr)) (fun _ i _ => n1 - (RowKit.intOf i).toNat)
  case atStart => exact ⟨0, 0, Nat.zero_le _, rfl, Lib.hid ⟨OwnS.nil _ _, Grow.refl w⟩⟩
  case round =>
    obtain ⟨k, m, hk, rfl, hs⟩ := hrel
    obtain ⟨bo, d, rfl⟩ := hs.out.1.shape
    by_cases hlt : k < n1
    · obtain ⟨a, s, rfl, hs1, hc⟩ := (H1.out.later hs.out.2).at hlt
      have hk2 : (k : Int) < (n1 : Int) := by omega
      have hk0 : (0 : Int) ≤ (k : Int) := by omega
      have P := ref_ins w.heap.size (.slice bo m d) m _ s wr hs.out.1 hs.out.2.size (by have h7 := intoT_len (A.take k) []; have := hs.out.1.1; rw [List.length_nil, List.length_take] at h7; omega)
      rw [← intoT_take hs1] at P
      have HS := Lib.hid (And.intro hs.out.1 hs.out.2)
      clear hs hs1
      go_wp2_with (go_at_call 57; refine P.mono ?_; rintro e w2 ⟨ao3, m3, c3, rfl, ho3, hc3, _⟩; have H3 : Hid (OwnS w2 w.heap.size (.slice ao3 m3 c3) m3 (intoT (A.take (k + 1)) []) ∧ Grow w w2) := Lib.hid ⟨ho3, row_growF HS.out.2 HS.out.1 hc3⟩; clear ho3 hc3)
      exact ⟨⟨k + 1, m3, by omega, by go_num, H3⟩, by simp [RowKit.intOf]; omega⟩
    · have hk2 : ¬ (k : Int) < (n1 : Int) := by omega
      obtain rfl : k = n1 := by omega
      have HS : Hid (OwnS wr w.heap.size (.slice bo m d) m (setF A) ∧ Grow w wr) := Lib.hid (by have := hs.out; rw [hA.out, List.take_length] at this; exact this)
      clear hs
      go_wp2_with fail
      go_loopw [5, 7] (fun r i wr => ∃ k m : Nat, k ≤ n2 ∧ i = .int .i64 k ∧ Hid (OwnS wr w.heap.size r m (intoT (B.take k) (setF A)) ∧ Grow w wr)) (fun _ i _ => n2 - (RowKit.intOf i).toNat)
      case atStart => exact ⟨0, m, Nat.zero_le _, rfl, HS⟩
      case round =>
        obtain ⟨j, q, hj, rfl, hs⟩ := hrel
        obtain ⟨bo', d', rfl⟩ := hs.out.1.shape
        by_cases hlt2 : j < n2
        · obtain ⟨a, s, rfl, hs1, hc⟩ := (H2.out.later hs.out.2).at hlt2
          have hj2 : (j : Int) < (n2 : Int) := by omega
          have hj0 : (0 : Int) ≤ (j : Int) := by omega
          have P := ref_ins w.heap.size (.slice bo' q d') q _ s _ hs.out.1 hs.out.2.size (by have h7 := intoT_len (B.take j) (setF A); have := setF_len A; have := hs.out.1.1; have := hA.out; rw [List.length_take] at h7; omega)
          rw [← intoT_take hs1] at P
          have HS2 := Lib.hid (And.intro hs.out.1 hs.out.2)
          clear hs hs1
          go_wp2_with (go_at_call 57; refine P.mono ?_; rintro e w2 ⟨ao3, m3, c3, rfl, ho3, hc3, _⟩; have H3 : Hid (OwnS w2 w.heap.size (.slice ao3 m3 c3) m3 (intoT (B.take (j + 1)) (setF A)) ∧ Grow w w2) := Lib.hid ⟨ho3, row_growF HS2.out.2 HS2.out.1 hc3⟩; clear ho3 hc3)
          exact ⟨⟨j + 1, m3, by omega, by go_num, H3⟩, by simp [RowKit.intOf]; omega⟩
        · have hj2 : ¬ (j : Int) < (n2 : Int) := by omega
          obtain rfl : j = n2 := by omega
          have HS2 : Hid (∀ W, OwnS W w.heap.size (.slice bo' q d') q (intoT (B.take j) (setF A)) → OwnS W w.heap.size (.slice bo' q d') q (uniT A B)) := Lib.hid (fun W h => by rw [hB.out, List.take_length] at h; exact h)
          go_wp2_with fail
          go_ret
          exact ⟨_, rfl, ⟨q, HS2.out _ hs.out.1⟩, hs.out.2⟩

theorem ref_has (v : Value) (n : Nat) (L : List B8) (s : B8) (w : World) (h : StrV w v n L) :
    Calls Tryz.prog 22 #[v, .string (tx s)] w fun e w' => e = .returned (.bool (decide (s ∈ L))) ∧ ∃ q, w' = w.drewN q := by
  have P := ref_plc v n L s w h
  obtain ⟨ao, c, rfl⟩ := h.shape
  by_cases hm : s ∈ L
  · rw [plcT_in hm] at P
    rw [decide_eq_true hm]
    have h0 : (0 : Int) ≤ (idxT L s : Int) := by omega
    go_enter Tryz.func22, Tryz.ntmps22
    go_wp2_with (go_at_call 56; refine P.mono ?_; rintro e w' ⟨rfl, q, rfl⟩)
    go_ret
    exact ⟨rfl, q, rfl⟩
  · rw [plcT_out hm] at P
    rw [decide_eq_false hm]
    go_enter Tryz.func22, Tryz.ntmps22
    go_wp2_with (go_at_call 56; refine P.mono ?_; rintro e w' ⟨rfl, q, rfl⟩)
    go_ret
    exact ⟨rfl, q, rfl⟩

theorem withT_take {A B : List B8} {k : Nat} {s : B8} (h : A[k]? = some s) : withT (A.take (k + 1)) B = (withT (A.take k) B && decide (s ∈ B)) := by
  unfold withT
  rw [List.take_add_one, h, Option.toList_some, List.all_append]
  simp
set_option maxHeartbeats 2000000 in
theorem ref_within (v1 v2 : Value) (n1 n2 : Nat) (A B : List B8) (w : World) (h1 : StrV w v1 n1 A) (h2 : StrV w v2 n2 B) :
    Calls Tryz.prog 26 #[v1, v2] w fun e w' => e = .returned (.bool (withT A B)) ∧ ∃ q, w' = w.drewN q := by
  obtain ⟨a1, c1, rfl⟩ := h1.shape
  obtain ⟨a2, c2, rfl⟩ := h2.shape
  have H1 := Lib.hid h1
  have H2 := Lib.hid h2
  have hA := Lib.hid h1.1
  have hn1 : n1 ≤ 1000000 := h1.2.1
  clear h1 h2
  go_enter Tryz.func26, Tryz.ntmps26
  go_wp2_with fail
  go_loopw [5] (fun i wr => ∃ k q : Nat, k ≤ n1 ∧ i = .int .i64 k ∧ Hid (withT (A.take k) B = true) ∧ wr = w.drewN q) (fun i _ => n1 - (RowKit.intOf i).toNat)
  case atStart => exact ⟨0, 0, Nat.zero_le _, rfl, Lib.hid rfl, rfl⟩
  case round =>
    obtain ⟨k, q, hk, rfl, hs, rfl⟩ := hrel
    by_cases hlt : k < n1
    · have hg : Grow w (w.drewN q) := below_drewN (Grow.refl w) q
      obtain ⟨a, s, rfl, hs1, hc⟩ := (H1.out.later hg).at hlt
      have hk2 : (k : Int) < (n1 : Int) := by omega
      have hk0 : (0 : Int) ≤ (k : Int) := by omega
      have P := ref_plc (.slice a2 n2 c2) n2 B s (w.drewN q) (H2.out.later hg)
      by_cases hm : s ∈ B
      · rw [plcT_in hm] at P
        have h0 : ¬ (idxT B s : Int) < 0 := by omega
        have HS : Hid (withT (A.take (k + 1)) B = true) := Lib.hid (by rw [withT_take hs1, hs.out, decide_eq_true hm]; rfl)
        clear hs hs1 hm hg
        go_wp2_with (go_at_call 56; refine P.mono ?_; rintro e w' ⟨rfl, q2, rfl⟩)
        exact ⟨⟨k + 1, q + q2, by omega, by go_num, HS, rfl⟩, by simp [RowKit.intOf]; omega⟩
      · rw [plcT_out hm] at P
        have HS : Hid (withT A B = false) := Lib.hid (by
          unfold withT
          rw [List.all_eq_false]
          exact ⟨s, List.mem_of_getElem? hs1, by simp [hm]⟩)
        clear hs hs1 hm hg
        go_wp2_with (go_at_call 56; refine P.mono ?_; rintro e w' ⟨rfl, q2, rfl⟩)
        go_ret
        exact ⟨by rw [HS.out]; rfl, q + q2, rfl⟩
    · have hk2 : ¬ (k : Int) < (n1 : Int) := by omega
      obtain rfl : k = n1 := by omega
      have HS : Hid (withT A B = true) := Lib.hid (by have := hs.out; rw [hA.out, List.take_length] at this; exact this)
      clear hs
      go_wp2_with fail
      go_ret
      exact ⟨by rw [HS.out]; rfl, q, rfl⟩

end Go.Proofs.YtlgfijjkbomejaaGreatDoor

namespace Go.Proofs.YtlgfijjkbomejaaGreatDoor
open Go.RowKit Go.Lib
section
variable {P : Program} {md : Region.Mode} {ops : Array Oper}

/-- Every order; each step but the one of place k into a later world. -/
def wpMvs (P : Program) (md : Region.Mode) (ops : Array Oper) (k : Nat) (Q : Act → World → Prop) : Nat → Array Bool → Act → World → Prop
  | 0, listed, a, w => Region.ready md ops listed = [] ∧ Q a w
  | fuel + 1, listed, a, w =>
    (Region.ready md ops listed = [] → Q a w) ∧
    ∀ i ∈ Region.ready md ops listed, mvOp P ops i (fun a' w' => (i = k ∨ Grow w w') ∧ wpMvs P md ops k Q fuel (listed.setIfInBounds i true) a' w') a w

theorem wpAny_of_mvs {k : Nat} {Q : Act → World → Prop} {Q' : Exit → Act → World → Prop} (hQ : ∀ a w, Q a w → Q' .normal a w) : ∀ (fuel : Nat) (listed : Array Bool) (a : Act) (w : World),
    wpMvs P md ops k Q fuel listed a w → wpAny P md ops Q' fuel listed a w
  | 0, _, _, _, h => ⟨h.1, hQ _ _ h.2⟩
  | fuel + 1, _, _, _, h => ⟨fun h0 => hQ _ _ (h.1 h0), fun i hi => wpOp_mono (fun a' w' h' => wpAny_of_mvs hQ fuel _ a' w' h'.2) (wpOp_of_mvOp (h.2 i hi))⟩

/-- The operation k waits for i. -/
def waitB (md : Region.Mode) (ops : Array Oper) (k i : Nat) : Bool :=
  match ops[k]? with
  | none => false
  | some o => o.after.any fun e => Region.binds md e && e.on == i

theorem wait_not {k i : Nat} {listed : Array Bool} (h : waitB md ops k i = true) (hun : listed.getD i true = false) : k ∉ Region.ready md ops listed := by
  intro hm
  obtain ⟨_, o, ho, hall⟩ := mem_ready.1 hm
  unfold waitB at h
  rw [ho] at h
  obtain ⟨e, he, hb⟩ := Array.any_eq_true'.1 h
  simp only [Bool.and_eq_true, beq_iff_eq] at hb
  have h2 := hall e he hb.1
  rw [hb.2] at h2
  rcases Nat.lt_or_ge i listed.size with h' | h'
  · simp [h'] at hun h2; rw [hun] at h2; cases h2
  · simp [Array.getElem?_eq_none h'] at hun

theorem wpMvs_first {k : Nat} {Q : Act → World → Prop} {i : Nat} {oi : Oper} {v : Value} (hi : ops[i]? = some oi) (hL : waitB md ops k i = true) (hsel : ∀ (j : Nat) (o : Oper) cs b, ops[j]? = some o → o.op ≠ .select cs b) :
    ∀ (fuel : Nat) (listed : Array Bool) (a : Act) (w : World),
      (∀ j oj, ops[j]? = some oj → j ≠ i → listed.getD j true = false → (∀ e ∈ oj.after, Region.binds md e = true → e.on ≠ i) → oi.apart ops oj = true) →
      i ∈ Region.ready md ops listed → Ups P ops w oi v a →
      wpMvs P md ops k Q fuel (listed.setIfInBounds i true) (a.put oi.dst v) w → wpMvs P md ops k Q (fuel + 1) listed a w := by
  intro fuel
  induction fuel with
  | zero =>
    intro listed a w _ hr hy H
    refine ⟨fun h => (by rw [h] at hr; cases hr), fun j hj => ?_⟩
    by_cases hji : j = i
    · subst hji; exact YieldsAt.mvOp hi (hy w (Grow.refl w)) ⟨.inr (Grow.refl w), H⟩
    · have := ready_mono hj hji
      rw [H.1] at this
      cases this
  | succ fuel ih =>
    intro listed a w hfree hr hy H
    refine ⟨fun h => (by rw [h] at hr; cases hr), fun j hj => ?_⟩
    by_cases hji : j = i
    · subst hji; exact YieldsAt.mvOp hi (hy w (Grow.refl w)) ⟨.inr (Grow.refl w), H⟩
    · have hjk : j ≠ k := by
        rintro rfl
        exact wait_not hL (mem_ready.1 hr).1 hj
      have h1 := mvOp_mono (K' := fun a' w' => Grow w w' ∧ wpMvs P md ops k Q fuel ((listed.setIfInBounds i true).setIfInBounds j true) a' w') (fun a' w' h => ⟨h.1.resolve_left hjk, h.2⟩) (H.2 j (ready_mono hj hji))
      obtain ⟨hjun, oj, hoj, hall⟩ := mem_ready.1 hj
      have hnot : ∀ e ∈ oj.after, Region.binds md e = true → e.on ≠ i := fun e he hb heq => by
        have h1 := hall e he hb
        have h0 := (mem_ready.1 hr).1
        rw [heq] at h1
        rcases Nat.lt_or_ge i listed.size with h' | h'
        · simp [h'] at h0 h1; rw [h0] at h1; cases h1
        · simp [Array.getElem?_eq_none h'] at h1
      have h2 := mvOp_put hoj (hfree j oj hoj hji hjun hnot) (fun cs b => hsel i oi cs b hi) (fun cs b => hsel j oj cs b hoj) hy h1
      have hfree' : ∀ q ok, ops[q]? = some ok → q ≠ i → (listed.setIfInBounds j true).getD q true = false →
          (∀ e ∈ ok.after, Region.binds md e = true → e.on ≠ i) → oi.apart ops ok = true := fun q ok hk hki hun hno => by
        refine hfree q ok hk hki ?_ hno
        by_cases hjk : j = q
        · subst hjk; exact hjun
        · rw [getD_set_ne true hjk] at hun; exact hun
      refine mvOp_mono (fun a' w' h3 => ⟨.inr h3.1, ih (listed.setIfInBounds j true) a' w' hfree' (ready_mono hr (Ne.symm hji)) h3.2.1 ?_⟩) h2
      rw [Array.setIfInBounds_comm _ _ hji]
      exact h3.2.2

/-- One walk. -/
def wpLins (P : Program) (ops : Array Oper) (k : Nat) (Q : Act → World → Prop) : List (Nat × Bool × Oper) → Act → World → Prop
  | [], a, w => Q a w
  | (_, true, o) :: r, a, w => ∃ v, Ups P ops w o v a ∧ wpLins P ops k Q r (a.put o.dst v) w
  | (j, false, o) :: r, a, w => mvRun P ops o (fun a' w' => (j = k ∨ Grow w w') ∧ wpLins P ops k Q r a' w') a w

theorem wpMvs_of_lin {k : Nat} {Q : Act → World → Prop} (hs : Region.noSelect ops = true) : ∀ (l : List (Nat × Bool × Oper)) (listed : Array Bool) (a : Act) (w : World), (∀ x ∈ l, ops[x.1]? = some x.2.2) → (∀ x ∈ l, x.2.1 = true → waitB md ops k x.1 = true) →
    mvB md ops l listed = true → wpLins P ops k Q l a w → wpMvs P md ops k Q l.length listed a w
  | [], _, _, _, _, _, hB, h => ⟨by simpa [mvB] using hB, h⟩
  | (j, true, o) :: r, listed, a, w, hat, hnk, hB, h => by
    simp only [mvB, Bool.and_eq_true] at hB
    obtain ⟨v, hy, hK⟩ := h
    have h0 : ops[j]? = some o := hat (j, true, o) (List.mem_cons_self ..)
    exact wpMvs_first h0 (hnk (j, true, o) (List.mem_cons_self ..) rfl) (Region.noSelect_spec hs) r.length listed a w (Region.free_spec h0 hB.1.2) (by simpa using hB.1.1) hy
      (wpMvs_of_lin hs r _ _ w (fun x hx => hat x (by simp [hx])) (fun x hx => hnk x (by simp [hx])) hB.2 hK)
  | (j, false, o) :: r, listed, a, w, hat, hnk, hB, h => by
    simp only [mvB, Bool.and_eq_true, decide_eq_true_eq] at hB
    refine ⟨fun h1 => (by rw [hB.1] at h1; cases h1), fun i hi => ?_⟩
    rw [hB.1] at hi
    obtain rfl : i = j := by simpa using hi
    have h0 : ops[i]? = some o := hat (i, false, o) (List.mem_cons_self ..)
    have hm : mvOp P ops i (fun a' w' => (i = k ∨ Grow w w') ∧ wpLins P ops k Q r a' w') a w := by unfold mvOp; simp only [h0]; exact h
    exact mvOp_mono (fun a' w' h' => ⟨h'.1, wpMvs_of_lin hs r _ a' w' (fun x hx => hat x (by simp [hx])) (fun x hx => hnk x (by simp [hx])) hB.2 h'.2⟩) hm

def mvsOk (ops : Array Oper) (k : Nat) (items : List (Nat × Bool × Oper)) : Bool := mvOk ops items && items.all fun x => !x.2.1 || waitB .any ops k x.1

theorem wp_region_mvs {id : Nat} {Q : Exit → Act → World → Prop} {a : Act} {w : World} {l : List Oper} (k : Nat) (segs : List (Nat × Nat × Bool)) (hm : P.follows .mixedOrders = true) (hB : mvsOk l.toArray k (mvAll segs l) = true)
    (h : wpLins P l.toArray k (fun a' w' => Q .normal a' w') (mvAll segs l) a w.drew) : (Code.region id l.toArray true).wp P Q a w := by
  simp only [mvsOk, mvOk, Bool.and_eq_true, beq_iff_eq] at hB
  refine wp_region_any hm (wpAny_of_mvs (k := k) (Q := fun a' w' => Q .normal a' w') (fun _ _ h => h) _ _ _ _ ?_)
  have := wpMvs_of_lin (md := .any) (k := k) hB.1.1.1 (mvAll segs l) (Array.replicate l.toArray.size false) a w.drew (mvAll_at l segs) (fun x hx hb => by
    have := List.all_eq_true.1 hB.2 x hx
    simp only [Bool.or_eq_true, Bool.not_eq_true'] at this
    rcases this with h | h
    · rw [hb] at h; cases h
    · exact h) hB.1.2 h
  rw [hB.1.1.2] at this
  exact this

theorem wpLins_nil {k : Nat} {Q : Act → World → Prop} {a : Act} {w : World} (h : Q a w) : wpLins P ops k Q [] a w := h

theorem wpLins_still {k : Nat} {Q : Act → World → Prop} {j : Nat} {o : Oper} {r : List (Nat × Bool × Oper)} {a : Act} {w : World} (v : Value) (hv : ∀ w', Grow w w' → ∀ K : Value → Prop, K v → mvVal P ops o a w' K)
    (h : ∀ K : Act → Prop, (∀ a, wpLins P ops k Q r a w → K a) → K (a.put o.dst v)) : wpLins P ops k Q ((j, true, o) :: r) a w := by
  refine ⟨v, fun w' hg => ?_, h _ fun _ h => h⟩
  have := hv w' hg (fun u => u = v) rfl
  unfold mvVal at this
  unfold YieldsAt
  by_cases hw : Region.wanted o (yielded ops a.tmps) = true
  · left
    rw [if_pos hw] at this
    refine ⟨hw, ?_⟩
    split at this
    · next heq => obtain ⟨rfl, rfl⟩ := this; exact .inl heq
    · next heq => obtain ⟨rfl, rfl⟩ := this; exact .inr (.inl ⟨heq, rfl⟩)
    · next heq => obtain ⟨rfl, u, hc, rfl⟩ := this; exact .inr (.inr ⟨_, _, heq, hc⟩)
    · exact this.elim
  · right
    rw [if_neg hw] at this
    exact ⟨by simpa using hw, this.symm⟩

theorem wpLins_call {k : Nat} {Q : Act → World → Prop} {j : Nat} {o : Oper} {r : List (Nat × Bool × Oper)} {a : Act} {w : World}
    (h : ∀ K : Act → World → Prop, (∀ a w', Grow w w' → wpLins P ops k Q r a w' → K a w') → mvRun P ops o K a w) : wpLins P ops k Q ((j, false, o) :: r) a w :=
  mvRun_mono (fun _ _ h => ⟨.inr h.1, h.2⟩) (h (fun a' w' => Grow w w' ∧ wpLins P ops k Q r a' w') fun _ _ hg hk => ⟨hg, hk⟩)
theorem wpLins_last {k : Nat} {Q : Act → World → Prop} {o : Oper} {r : List (Nat × Bool × Oper)} {a : Act} {w : World}
    (h : ∀ K : Act → World → Prop, (∀ a w', wpLins P ops k Q r a w' → K a w') → mvRun P ops o K a w) : wpLins P ops k Q ((k, false, o) :: r) a w :=
  mvRun_mono (fun _ _ h => ⟨.inl rfl, h⟩) (h (fun a' w' => wpLins P ops k Q r a' w') fun _ _ hk => hk)
end

end Go.Proofs.YtlgfijjkbomejaaGreatDoor
