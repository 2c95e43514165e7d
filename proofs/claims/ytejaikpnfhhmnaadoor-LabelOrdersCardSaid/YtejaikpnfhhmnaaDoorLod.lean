/- LabelOrders, walked: the second list. Numbers and types by name. -/
import Derived.Test.YtejaikpnfhhmnaaDoorLpr
import Derived.Test.YtejaikpnfhhmnaaDoorLop
namespace Go.Proofs.YtejaikpnfhhmnaaDoor
open Go.RowKit Go.Lib
set_option maxRecDepth 100000

/-- What lies in a list from t on is in another, of which all is made of the first. -/
structure Made8 (l : List Pr8) (t : Nat) (M : List Pr8) : Prop where
  from8 : ∀ p, p ∈ M → p ∈ l ∨ ∃ a b, a ∈ l ∧ b ∈ l ∧ a.2 ≠ [] ∧ a.2 = b.1 ∧ p = (a.1, b.2)
  has8 : ∀ j p, t ≤ j → l[j]? = some p → p ∈ M
theorem Made8.two {l : List Pr8} {t : Nat} {M : List Pr8} {p : Pr8} (h : Made8 l (t + 1) M) (hp : l[t]? = some p) : Made8 l t (M ++ [p, p]) := by
  refine ⟨fun q hq => ?_, fun j q hj hq => ?_⟩
  · rcases List.mem_append.1 hq with h1 | h1
    · exact h.from8 q h1
    · left
      simp only [List.mem_cons, List.not_mem_nil, or_false, or_self] at h1
      rw [h1]
      exact List.mem_of_getElem? hp
  · rcases Nat.eq_or_lt_of_le hj with e | e
    · subst e
      rw [hp] at hq
      cases hq
      simp
    · exact List.mem_append_left _ (h.has8 j q e hq)
theorem Made8.snoc {l : List Pr8} {M : List Pr8} {p q : Pr8} {i k : Nat} (h : Made8 l 0 M) (hp : l[i]? = some p) (hq : l[k]? = some q) (hn : p.2 ≠ []) (e : p.2 = q.1) : Made8 l 0 (M ++ [(p.1, q.2)]) := by
  refine ⟨fun x hx => ?_, fun j x hj hx => List.mem_append_left _ (h.has8 j x hj hx)⟩
  rcases List.mem_append.1 hx with h1 | h1
  · exact h.from8 x h1
  · right
    simp only [List.mem_cons, List.not_mem_nil, or_false] at h1
    exact ⟨p, q, List.mem_of_getElem? hp, List.mem_of_getElem? hq, hn, e, h1⟩
theorem Made8.alike {l : List Pr8} {M : List Pr8} (h : Made8 l 0 M) : Alike l M :=
  ⟨fun p hp => by obtain ⟨j, hj, e⟩ := List.getElem_of_mem hp; exact h.has8 j p (Nat.zero_le _) (by rw [List.getElem?_eq_getElem hj, e]), h.from8⟩
theorem pairsT_ne : ∀ {l : List UInt8} {p : Pr8}, p ∈ pairsT l → p.2 ≠ []
  | [], _, h => by simp [pairsT] at h
  | [_], _, h => by simp [pairsT] at h
  | x :: y :: r, p, h => by
    unfold pairsT at h
    rcases List.mem_cons.1 h with e | h
    · rw [e]; simp
    · exact pairsT_ne h

def pzs (p : Pr8) (z : Int) : List Value := [.string (tx p.1), .string (tx p.2), .int .i64 z]
theorem pzs_one (p q : Pr8) (y z : Int) : ∀ u ∈ pzs p y ++ pzs q z, u.oneCell' = true := by
  intro u hu
  simp only [pzs, List.cons_append, List.nil_append, List.mem_cons, List.not_mem_nil, or_false] at hu
  rcases hu with rfl | rfl | rfl | rfl | rfl | rfl <;> rfl
theorem pzs_prm (p : Pr8) (z : Int) : PrmR p (pzs p z) := ⟨z, rfl⟩
theorem own_snoc2 {w : World} {base : Nat} {v : Value} {n : Nat} {M : List Pr8} {cs : List Value} {p : Pr8} {z : Int} (hn : n = M.length) (h : w.ownsRow base 50 3 v (n + 2) (cs ++ (pzs p z ++ pzs p z))) (hp : Parts 3 PrmR M cs) : OwnPr w base v (n + 2) (M ++ [p, p]) :=
  ⟨by simp [hn], _, h, by
    have h1 := Parts.snoc rfl (pzs_prm p z) hp
    have h2 := Parts.snoc rfl (pzs_prm p z) h1
    rw [List.append_assoc, List.append_assoc] at h2
    exact h2⟩

/-- What the law's loops leave: a list alike. -/
def SecTold (w0 w : World) (ns : List UInt8) (r : Value) : Prop := ∃ m M, OwnPr w w0.heap.size r m M ∧ m ≤ 1000 ∧ Made8 (pairsT ns) 0 M ∧ Grow w0 w

set_option maxHeartbeats 8000000 in
theorem orders_walk (K : LabK) (v : Value) (n : Nat) (ns : List UInt8) (w : World) (ht : SgW w) (hl : n = ns.length) (hm : n ≤ maxLen) (h : Reads w v (bv ns)) : Calls Tryd.prog 6 #[v] w fun e w' => e = .returned (.bool true) ∧ Below w.heap.size w w' := by
  obtain ⟨ao, c, rfl⟩ : ∃ ao c, v = .slice ao n c := by obtain ⟨ao, c, e, _⟩ := h; exact ⟨ao, c, by rw [e, bv_length, hl]⟩
  have H := Lib.hid (And.intro ht (And.intro h hl))
  have HK := Lib.hid K
  unfold maxLen at hm
  clear ht h hl K
  by_cases h60 : 60 < n
  · have g60 : (60 : Int) < (n : Int) := by omega
    go_enter Tryd.func6, Tryd.ntmps6
    go_wp2_with (go_at_call 11; refine (awake_lab HK.out _ H.out.1).mono ?_; rintro e w' ⟨rfl, hb9⟩; have H9 := Lib.hid hb9; clear hb9)
    go_ret
    exact ⟨rfl, H9.out⟩
  have g60 : ¬ (60 : Int) < (n : Int) := by omega
  have P1 := law_pairs (.slice ao n c) n ns w H.out.2.2 (by omega) H.out.2.1
  go_enter Tryd.func6, Tryd.ntmps6
  go_wp2_with fail
  refine P1.mono ?_
  rintro e w1 ⟨u, m, rfl, ho, hg1⟩
  obtain ⟨al, cl, rfl⟩ := ho.shape
  have hm30 : m ≤ 30 := by have := ho.1; rw [pairsT_len] at this; have := H.out.2.2; omega
  have HL := Lib.hid (ho.read (by omega))
  have HLO := Lib.hid (And.intro ho hg1)
  clear ho hg1 P1
  go_wp2_with fail
  go_loopw [4, 5] (fun r i wr => ∃ j q : Nat, j ≤ m ∧ i = .int .i64 ((j : Int) - 1) ∧ Hid (q + 2 * j = 2 * m ∧ ∃ M, OwnPr wr w1.heap.size r q M ∧ Made8 (pairsT ns) j M ∧ Grow w1 wr)) (fun _ i _ => (RowKit.intOf i + 1).toNat)
  case atStart => exact ⟨m, 0, Nat.le_refl _, rfl, Lib.hid ⟨by omega, [], OwnPr.nil _ _, ⟨fun p hp => by simp at hp, fun j p hj hp => by have := (List.getElem?_eq_some_iff.1 hp).1; have := HLO.out.1.1; omega⟩, Grow.refl _⟩⟩
  case round =>
    obtain ⟨j, q, hj, hi, hs⟩ := hrel
    cases j with
    | succ t =>
      rw [show ((t + 1 : Nat) : Int) - 1 = (t : Int) by omega] at hi
      subst hi
      obtain ⟨hq, M, hO, hMd, hG⟩ := hs.out
      obtain ⟨bo, d, rfl⟩ := hO.shape
      obtain ⟨a, p, z, rfl, hp, c0, c1, c2⟩ := HL.out.at (show t < m by omega)
      obtain ⟨p1, p2⟩ := p
      simp only at c0 c1
      have t0 : (0 : Int) ≤ (t : Int) := by omega
      have t1 : (t : Int) < (m : Int) := by omega
      obtain ⟨hqM, cs, hcs, hpa⟩ := hO
      have KEEP : Hid (∀ W, Grow w1 W → W.cell? (a.add (t * 3)) = some (.string (tx p1)) ∧ W.cell? ⟨(a.add (t * 3)).block, (a.add (t * 3)).off + 1, none⟩ = some (.string (tx p2)) ∧ W.cell? ⟨(a.add (t * 3)).block, (a.add (t * 3)).off + 2, none⟩ = some (.int .i64 z)) := Lib.hid fun W hg => ⟨grow_cellO hg c0, grow_cellO hg c1, grow_cellO hg c2⟩
      have HGR := Lib.hid hG
      have HO : Hid (∀ W, Grow wr W → W.ownsRow w1.heap.size 50 3 (.slice bo q d) q cs) := Lib.hid fun W hg => own_chg (F := []) hcs (Chg.of_below hg) (by simp)
      have HB : Hid (∀ W, Grow wr W → w1.heap.size ≤ W.heap.size) := Lib.hid fun W hg => by have := hG.size; have := hg.size; omega
      have HC : Hid (∀ W : World, W = wr → Cells (W.alloc (.cells #[.string (tx p1), .string (tx p2), .int .i64 z, .string (tx p1), .string (tx p2), .int .i64 z] 50)).drew (.slice (some ⟨wr.heap.size, 0, none⟩) 2 2) 3 2 (pzs (p1, p2) z ++ pzs (p1, p2) z)) := Lib.hid fun W e => by subst e; exact Cells.lit W (pzs (p1, p2) z ++ pzs (p1, p2) z) 50 (0, 0) 3 2 rfl
      have FK : Hid (q + 2 ≤ 1000000) := Lib.hid (by omega)
      have HS := Lib.hid (And.intro hq (And.intro hMd (And.intro hqM (And.intro hpa hp))))
      have e0 := grow_cellO hG c0
      have e1 := grow_cellO hG c1
      have e2 := grow_cellO hG c2
      clear hs hq hMd hG hcs hpa hqM hp c0 c1 c2
      go_upto_region 8 with fail
      go_region_held3 (fun W => W.cell? (a.add (t * 3)) = some (.string (tx p1)) ∧ W.cell? ⟨(a.add (t * 3)).block, (a.add (t * 3)).off + 1, none⟩ = some (.string (tx p2)) ∧ W.cell? ⟨(a.add (t * 3)).block, (a.add (t * 3)).off + 2, none⟩ = some (.int .i64 z)) (exact KEEP.out _ (by repeat' (first | exact HGR.out | refine growA _ ?_ | refine growD ?_ | refine Below.trans ?_ hb6))) ((refine step_append_gen elemPrm8 (by rfl) (.tmp 25) (.tmp 34) (by rfl) w1.heap.size (.slice bo q d) q cs (by rfl) (HO.out _ (by repeat' (first | exact Grow.refl _ | refine growA _ ?_ | refine growD ?_))) (.slice (some ⟨wr.heap.size, 0, none⟩) 2 2) 2 (pzs (p1, p2) z ++ pzs (p1, p2) z) (by rfl) (HC.out _ rfl) (pzs_one _ _ _ _) (q + 2) rfl FK (by decide) (HB.out _ (by repeat' (first | exact Grow.refl _ | refine growA _ ?_ | refine growD ?_))) ?_; intro ao6 c6 w6 hown6 hb6 hg6 ho6))
      all_goals
        have HN : Hid (OwnPr w6 w1.heap.size (.slice ao6 (q + 2) c6) (q + 2) (M ++ [(p1, p2), (p1, p2)]) ∧ Grow w1 w6) := Lib.hid ⟨own_snoc2 HS.out.2.2.1 hown6 HS.out.2.2.2.1, Below.trans (by repeat' (first | exact HGR.out | refine growA _ ?_ | refine growD ?_)) hb6⟩
        clear hown6 hb6 hg6 ho6
        go_wp2_with fail
        exact ⟨⟨t, q + 2, by omega, rfl, Lib.hid ⟨by have := HS.out.1; omega, _, HN.out.1, HS.out.2.1.two HS.out.2.2.2.2, HN.out.2⟩⟩, by simp [RowKit.intOf]⟩
    | zero =>
      rw [show ((0 : Nat) : Int) - 1 = -1 by omega] at hi
      subst hi
      have HI : Hid (∃ q M, OwnPr wr w1.heap.size u4 q M ∧ q ≤ 60 ∧ Made8 (pairsT ns) 0 M ∧ Grow w1 wr) := Lib.hid (by obtain ⟨hq, M, hO, hMd, hG⟩ := hs.out; exact ⟨q, M, hO, by omega, hMd, hG⟩)
      clear hs
      go_wp2_with fail
      go_loopw [4, 6] (fun r i wr => ∃ j : Nat, j ≤ m ∧ i = .int .i64 (j : Int) ∧ Hid (∃ q M, OwnPr wr w1.heap.size r q M ∧ q ≤ 60 + 30 * j ∧ Made8 (pairsT ns) 0 M ∧ Grow w1 wr)) (fun _ i _ => m - (RowKit.intOf i).toNat)
      case atStart => exact ⟨0, Nat.zero_le _, rfl, HI⟩
      case round =>
        clear HI
        obtain ⟨j, hj, rfl, hs⟩ := hrel
        by_cases h1 : j < m
        · have h3 : (j : Int) < (m : Int) := by omega
          have HI : Hid (∃ q M, OwnPr wr w1.heap.size u4 q M ∧ q ≤ 60 + 30 * j + 0 ∧ Made8 (pairsT ns) 0 M ∧ Grow w1 wr) := hs
          clear hs
          go_wp2_with fail
          go_loopw [4, 7] (fun r i wr => ∃ b : Nat, b ≤ m ∧ i = .int .i64 (b : Int) ∧ Hid (∃ q M, OwnPr wr w1.heap.size r q M ∧ q ≤ 60 + 30 * j + b ∧ Made8 (pairsT ns) 0 M ∧ Grow w1 wr)) (fun _ i _ => m - (RowKit.intOf i).toNat)
          case atStart => exact ⟨0, Nat.zero_le _, rfl, HI⟩
          case round =>
            clear HI
            obtain ⟨b, hb, rfl, hs⟩ := hrel
            by_cases h4 : b < m
            · have h5 : (b : Int) < (m : Int) := by omega
              obtain ⟨q, M, hO, hq, hMd, hG⟩ := hs.out
              obtain ⟨bo, d, rfl⟩ := hO.shape
              obtain ⟨a, p, z, rfl, hp, _, c1, _⟩ := HL.out.at (show j < m by omega)
              obtain ⟨a', p', z', e', hp', d0, d1, _⟩ := HL.out.at (show b < m by omega)
              cases e'
              obtain ⟨p1, p2⟩ := p
              obtain ⟨q1, q2⟩ := p'
              simp only at c1 d0 d1
              have t0 : (0 : Int) ≤ (j : Int) := by omega
              have b0 : (0 : Int) ≤ (b : Int) := by omega
              have HS := Lib.hid (And.intro hO (And.intro hq (And.intro hMd (And.intro hG (And.intro hp hp')))))
              have e1 := grow_cellO hG c1
              have e0 := grow_cellO hG d0
              have y1 := tx_list p2
              have y2 := tx_list q1
              clear hs hO hq hMd hG hp hp' d0 c1
              by_cases he : p2 = q1
              · subst he
                go_wp2_with fail
                go_quiet (fail)
                go_upto_region 16 with fail
                obtain ⟨wq, hwq⟩ : ∃ wq, wr.drewN nq = wq := ⟨_, rfl⟩
                have hGq : Grow w1 wq := by rw [← hwq]; exact below_drewN HS.out.2.2.2.1 _
                obtain ⟨hqM, cs, hcs, hpa⟩ := HS.out.1.later (show Grow wr wq by rw [← hwq]; exact below_drewN (Grow.refl _) _)
                rw [hwq]
                obtain ⟨_, px, zx, ex, hpx, c0, _, _⟩ := HL.out.at (show j < m by omega)
                cases ex
                rw [HS.out.2.2.2.2.1] at hpx
                cases hpx
                simp only at c0
                have KEEP : Hid (∀ W, Grow w1 W → W.cell? (a.add (j * 3)) = some (.string (tx p1)) ∧ W.cell? ⟨(a.add (b * 3)).block, (a.add (b * 3)).off + 1, none⟩ = some (.string (tx q2))) := Lib.hid fun W hg => ⟨grow_cellO hg c0, grow_cellO hg d1⟩
                have HGR := Lib.hid hGq
                have HO : Hid (∀ W, Grow wq W → W.ownsRow w1.heap.size 50 3 (.slice bo q d) q cs) := Lib.hid fun W hg => own_chg (F := []) hcs (Chg.of_below hg) (by simp)
                have HB : Hid (∀ W, Grow wq W → w1.heap.size ≤ W.heap.size) := Lib.hid fun W hg => by have := hGq.size; have := hg.size; omega
                have HC : Hid (∀ W : World, W = wq → Cells (W.alloc (.cells #[.string (tx p1), .string (tx q2), .int .i64 0] 50)).drew (.slice (some ⟨wq.heap.size, 0, none⟩) 1 1) 3 1 (pcs (p1, q2))) := Lib.hid fun W e => by subst e; exact Cells.lit W (pcs (p1, q2)) 50 (0, 0) 3 1 rfl
                have FK : Hid (q + 1 ≤ 1000000) := Lib.hid (by have h9 := HS.out.2.1; have : 30 * j ≤ 900 := by omega
                                                               omega)
                have HT := Lib.hid (And.intro hqM hpa)
                have e3 := grow_cellO hGq c0
                have e4 := grow_cellO hGq d1
                clear hwq hGq hqM hcs hpa c0 d1 e0 e1 y1 y2
                go_region_held3 (fun W => W.cell? (a.add (j * 3)) = some (.string (tx p1)) ∧ W.cell? ⟨(a.add (b * 3)).block, (a.add (b * 3)).off + 1, none⟩ = some (.string (tx q2))) (exact KEEP.out _ (by repeat' (first | exact HGR.out | refine growA _ ?_ | refine growD ?_ | refine Below.trans ?_ hb6))) ((refine step_append_gen elemPrm8 (by rfl) (.tmp 59) (.tmp 71) (by rfl) w1.heap.size (.slice bo q d) q cs (by rfl) (HO.out _ (by repeat' (first | exact Grow.refl _ | refine growA _ ?_ | refine growD ?_))) (.slice (some ⟨wq.heap.size, 0, none⟩) 1 1) 1 (pcs (p1, q2)) (by rfl) (HC.out _ rfl) (pcs_one _) (q + 1) rfl FK (by decide) (HB.out _ (by repeat' (first | exact Grow.refl _ | refine growA _ ?_ | refine growD ?_))) ?_; intro ao6 c6 w6 hown6 hb6 hg6 ho6))
                all_goals
                  have HN : Hid (OwnPr w6 w1.heap.size (.slice ao6 (q + 1) c6) (q + 1) (M ++ [(p1, q2)]) ∧ Grow w1 w6) := Lib.hid ⟨⟨by have := HT.out.1; simp [this], _, hown6, Parts.snoc rfl (pcs_prm _) HT.out.2⟩, Below.trans (by repeat' (first | exact HGR.out | refine growA _ ?_ | refine growD ?_)) hb6⟩
                  clear hown6 hb6 hg6 ho6
                  go_wp2_with fail
                  exact ⟨⟨b + 1, by omega, by go_num, Lib.hid ⟨q + 1, _, HN.out.1, by have := HS.out.2.1; omega, HS.out.2.2.1.snoc HS.out.2.2.2.2.1 HS.out.2.2.2.2.2 (pairsT_ne (List.mem_of_getElem? HS.out.2.2.2.2.1)) rfl, HN.out.2⟩⟩, by simp [RowKit.intOf]; omega⟩
              · have he2 : (p2 == q1) = false := by simpa using he
                go_wp2_with fail
                go_quiet (fail)
                go_wp2_with fail
                exact ⟨⟨b + 1, by omega, by go_num, Lib.hid ⟨q, M, HS.out.1.later (below_drewN (Grow.refl _) _), by have := HS.out.2.1; omega, HS.out.2.2.1, below_drewN HS.out.2.2.2.1 _⟩⟩, by simp [RowKit.intOf]; omega⟩
            · have h5 : ¬ (b : Int) < (m : Int) := by omega
              obtain ⟨bo, d, q0, rfl⟩ : ∃ bo d q0, u4 = .slice bo q0 d := by obtain ⟨q, M, hO, _⟩ := hs.out; obtain ⟨bo, d, e⟩ := hO.shape; exact ⟨bo, d, q, e⟩
              go_wp2_with fail
              exact ⟨⟨j + 1, by omega, by go_num, Lib.hid (by obtain ⟨q, M, hO, hq, hMd, hG⟩ := hs.out; exact ⟨q, M, hO, by omega, hMd, hG⟩)⟩, by simp [RowKit.intOf]; omega⟩
        · have h3 : ¬ (j : Int) < (m : Int) := by omega
          obtain rfl : j = m := by omega
          obtain ⟨q, M, hO, hq, hMd, hG⟩ := hs.out
          obtain ⟨bo, d, rfl⟩ := hO.shape
          have HE := Lib.hid (And.intro hO (And.intro hq (And.intro hMd hG)))
          have P1 := code_make _ j (pairsT ns) wr (HL.out.later hG)
          clear hs hO hq hMd hG
          go_wp2_with fail
          refine P1.mono ?_
          rintro e w2 ⟨hg2, v2, x2, rfl, hm2⟩
          obtain ⟨a0, k0, a1, k1, a2, k2, a3, k3, n2, y4, y5, rfl⟩ := hm2.six
          obtain ⟨W, hW⟩ : ∃ W, w2.alloc (.cells #[.slice a0 n2 k0, .slice a1 n2 k1, .slice a2 n2 k2, .slice a3 n2 k3, .int .i64 y4, .int .i64 y5] 29) = W := ⟨_, rfl⟩
          have hgW : Grow w2 W := by rw [← hW]; exact (Below.refl _ _).alloc (Nat.le_refl _) _
          have HB1 := Lib.hid (show LatB W w2.heap.size (.slice a0 n2 k0) (.slice a1 n2 k1) (.slice a2 n2 k2) (.slice a3 n2 k3) (.int .i64 y4) (.int .i64 y5) from by rw [← hW]; exact LatB.new _ _ _ _ _ _ _)
          have HM1 := Lib.hid (hm2.later hgW)
          have HGW := Lib.hid (Grow.trans (Grow.trans HLO.out.2 HE.out.2.2.2) (Grow.trans hg2 hgW))
          have P2 := code_make _ q M W ((HE.out.1.later (Grow.trans hg2 hgW)).read (by have := HE.out.2.1; have : 30 * j ≤ 900 := by omega
                                                                                       omega))
          have HW := Lib.hid hW
          clear hm2 hg2 hgW hW P1
          go_upto_region 18 with fail
          rw [HW.out]
          go_wp2_with fail
          refine P2.mono ?_
          rintro e w3 ⟨hg3, v3, x3, rfl, hm3⟩
          obtain ⟨hxx, L, f, J, M', p, q', s2, s3⟩ := made_two HE.out.2.2.1.alike (HM1.out.later hg3) hm3
          subst hxx
          obtain ⟨b0, c0, b1, c1, b2, c2, b3, c3, m2, z4, z5, rfl⟩ := hm3.six
          obtain ⟨V, hV⟩ : ∃ V, w3.alloc (.cells #[.slice b0 m2 c0, .slice b1 m2 c1, .slice b2 m2 c2, .slice b3 m2 c3, .int .i64 z4, .int .i64 z5] 29) = V := ⟨_, rfl⟩
          have hgV : Grow w3 V := by rw [← hV]; exact (Below.refl _ _).alloc (Nat.le_refl _) _
          have HB2 := Lib.hid (show LatB V w3.heap.size (.slice b0 m2 c0) (.slice b1 m2 c1) (.slice b2 m2 c2) (.slice b3 m2 c3) (.int .i64 z4) (.int .i64 z5) from by rw [← hV]; exact LatB.new _ _ _ _ _ _ _)
          have HB3 := Lib.hid (HB1.out.later (Grow.trans hg3 hgV))
          have HGV := Lib.hid (Grow.trans HGW.out (Grow.trans hg3 hgV))
          have HS := Lib.hid (same_yes _ _ L f J M' p q' V (s2.later hgV) (s3.later hgV))
          have HV := Lib.hid hV
          clear hm3 hg3 hgV hV P2 s2 s3 HM1 HB1
          go_upto_region 19 with fail
          rw [HV.out]
          obtain ⟨⟨d0, d1, d2⟩, d3, d4, d5⟩ := HB2.out.cells
          obtain ⟨⟨g0, g1, g2⟩, g3, g4, g5⟩ := HB3.out.cells
          go_wp2_with (first | (go_at_call 11; refine (awake_lab HK.out _ (H.out.1.later (Grow.trans HGV.out H8.out))).mono ?_; rintro e w' ⟨rfl, hb9⟩; have H9 := Lib.hid (Grow.trans HGV.out (Grow.trans H8.out hb9)); clear hb9) | (go_at_call 14; refine HS.out.mono ?_; rintro e w' ⟨rfl, hb8⟩; have H8 := Lib.hid hb8; clear hb8))
          go_ret
          exact ⟨rfl, H9.out⟩

end Go.Proofs.YtejaikpnfhhmnaaDoor
