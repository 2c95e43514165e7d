/- FrameTurned, walked. Numbers and types by name. -/
import Derived.Test.YtooadeoebdbngaaAwf
import Derived.StillTailTactics
namespace Go.Proofs.Ytooadeoebdbngaa
open Go.RowKit Go.Lib

/-- A list of one. -/
theorem Ows.one {w : World} {base : Nat} {ao : Option Addr} {n c : Nat} {p : List UInt8} (h : Ows w base (.slice ao n c) n [p]) : ∃ g ap cp, ao = some ⟨g, 0, none⟩ ∧ w.cell? ⟨g, 0, none⟩ = some (.slice ap p.length cp) ∧ Reads w (.slice ap p.length cp) (bv p) := by
  obtain ⟨hn, vs, h2, h3⟩ := h
  obtain ⟨ap, cp, e1, e2, _⟩ := h3 0 p rfl
  obtain ⟨h4, h5⟩ := h2
  rcases h5 with ⟨_, h0⟩ | ⟨g, cap, cur, h1, hb, hg, hnc, hcm, hcs, ht⟩
  · simp at hn; omega
  · simp only [Value.slice.injEq] at h1
    obtain ⟨rfl, _, rfl⟩ := h1
    refine ⟨g, ap, cp, rfl, ?_, e2⟩
    simp only [World.cell?, hg]
    have h6 : (cur.toList.take (n * 1))[0]? = some (Value.slice ap p.length cp) := by rw [ht]; exact e1
    rw [List.getElem?_take] at h6
    split at h6
    · simpa using h6
    · cases h6

/-- What is told of a record and one behind it of which one byte behind its length is turned. -/
theorem scans_turned {a b : List UInt8} {k : Nat} {x y : UInt8} (ha : a.length ≤ 1048576) (hb : b.length ≤ 1048576) (hx : (frm b)[4 + k]? = some x) (hy : y ≠ 0) {l : List (List UInt8)} {n : Nat} (h : Scans (frm a ++ (frm b).set (4 + k) (x ^^^ y)) l n) : l = [a] ∧ n = 8 + a.length := by
  have e : frm b = be4 b.length ++ (be4 (sumOf 0 b) ++ b) := by simp [frm]
  rw [e, List.getElem?_append_right (by rw [be4_length]; omega), be4_length, show 4 + k - 4 = k by omega] at hx
  have h0 := one_turned b k x y [] hb hx hy
  rw [List.append_nil] at h0
  rw [e, List.set_append_right _ _ (by rw [be4_length]; omega), be4_length, show 4 + k - 4 = k by omega] at h
  have h1 := scans_frms (.stop h0) [a] (by simpa using ha)
  have e1 : frms [a] = frm a := by simp [frms]
  rw [e1] at h1
  obtain ⟨rfl, rfl⟩ := scans_det h h1
  exact ⟨rfl, by rw [frm_length]; omega⟩

set_option maxHeartbeats 1000000 in
theorem turned_frame (v1 v2 : Value) (n m : Nat) (p b : List UInt8) (q : Nat) (y : UInt8) (w : World) (h1 : Reads w v1 (bv p)) (h2 : Reads w v2 (bv b)) (e1 : n = p.length) (e2 : m = b.length) (hq : q < 65536) :
    Calls Try.prog 5 #[v1, v2, .int .u16 (q : Int), .int .u8 (y.toNat : Int)] w fun e w' => e = .returned (.bool true) ∧ Below w.heap.size w w' := by
  obtain ⟨a1, c1, rfl⟩ : ∃ ao c, v1 = .slice ao n c := by obtain ⟨ao, c, rfl, _⟩ := h1; exact ⟨ao, c, by rw [bv_length, e1]⟩
  obtain ⟨a2, c2, rfl⟩ : ∃ ao c, v2 = .slice ao m c := by obtain ⟨ao, c, rfl, _⟩ := h2; exact ⟨ao, c, by rw [bv_length, e2]⟩
  have H1 := Lib.hid (And.intro h1 e1)
  have H2 := Lib.hid (And.intro h2 e2)
  clear h1 h2 e1 e2
  by_cases b1 : 1000 < n
  · have d1 : (1000 : Int) < (n : Int) := by omega
    go_enter Try.func5, Try.ntmps5
    go_wp2_with (go_at_call 7; refine (awake_frame _).mono ?_; rintro e w' ⟨rfl, hb9⟩)
    go_ret
    exact ⟨rfl, hb9⟩
  have d1 : ¬ (1000 : Int) < (n : Int) := by omega
  by_cases b2 : 1000 < m
  · have d2 : (1000 : Int) < (m : Int) := by omega
    go_enter Try.func5, Try.ntmps5
    go_wp2_with (go_at_call 7; refine (awake_frame _).mono ?_; rintro e w' ⟨rfl, hb9⟩)
    go_ret
    exact ⟨rfl, hb9⟩
  have d2 : ¬ (1000 : Int) < (m : Int) := by omega
  by_cases b3 : y = 0
  · subst b3
    go_enter Try.func5, Try.ntmps5
    go_wp2_with (go_at_call 7; refine (awake_frame _).mono ?_; rintro e w' ⟨rfl, hb9⟩)
    go_ret
    exact ⟨rfl, hb9⟩
  have d3 : ((y.toNat : Int) == 0) = false := by
    simp only [beq_eq_false_iff_ne, ne_eq]
    intro h
    exact b3 (UInt8.toNat_inj.1 (by simpa using h))
  have HY0 := Lib.hid b3
  have HQ := Lib.hid hq
  have hyl := y.toNat_lt
  clear b3 hq
  go_enter Try.func5, Try.ntmps5
  go_wp2_with fail
  refine (frame_any _ n p w H1.out.1 H1.out.2 (by omega)).mono ?_
  rintro e w2 ⟨ax, cx, rfl, hx, hb2⟩
  have HX := Lib.hid (And.intro hx hb2)
  clear hx hb2
  go_wp2_with fail
  refine (frame_any _ m b w2 (H2.out.1.later HX.out.2) H2.out.2 (by omega)).mono ?_
  rintro e w3 ⟨ay, cy, rfl, hy, hb3⟩
  obtain ⟨g, rfl, hgb, hg3, hmc⟩ := hy.begins (by omega)
  have HB3 := Lib.hid (HX.out.2.trans (hb3.mono HX.out.2.size))
  have RX := Lib.hid (HX.out.1.reads.later hb3)
  have HSZ := Lib.hid (And.intro hgb HX.out.2.size)
  obtain ⟨r, hr⟩ : ∃ r, r = m + 8 := ⟨_, rfl⟩
  obtain ⟨s, hs⟩ : ∃ s, s = n + 8 := ⟨_, rfl⟩
  rw [← hr] at hy hmc
  rw [← hr, ← hs]
  rw [← hs] at HX RX
  have hmod : ∃ k, k < r - 4 ∧ (q : Int) % ((r : Int) - 4) = (k : Int) := ⟨q % (r - 4), Nat.mod_lt _ (by omega), by rw [show (r : Int) - 4 = ((r - 4 : Nat) : Int) by omega]; rfl⟩
  obtain ⟨k, hk, hmod⟩ := hmod
  obtain ⟨j, hj⟩ : ∃ j, j = 4 + k := ⟨_, rfl⟩
  have ej : (4 : Int) + (k : Int) = (j : Int) := by omega
  have hjr : j < r := by omega
  have hjr' : (j : Int) < (r : Int) := by omega
  have r8 : ¬ (r : Int) < 8 := by omega
  have r9 : r ≤ 1008 := by omega
  have r4 : ((r : Int) - 4 == 0) = false := by simp; omega
  have hlen := hy.1
  obtain ⟨x, hx⟩ : ∃ x, (frm b)[j]? = some x := ⟨(frm b)[j]'(by omega), List.getElem?_eq_getElem (by omega)⟩
  have hcell := hy.cell hx
  have cd := hcell.1
  have fd := hcell.2
  have xx := bits_xor_u8 x y
  have wq : wrap64 (q : Int) = (q : Int) := wrap64_id _ (by have := HQ.out; omega)
  obtain ⟨u, hu⟩ : ∃ u, u = x ^^^ y := ⟨_, rfl⟩
  rw [← hu] at xx
  have HN := Lib.hid (And.intro hr (And.intro hs (And.intro hj (And.intro hx hu))))
  have HYS := Lib.hid (hy.set j hjr u)
  have hxl := x.toNat_lt
  obtain ⟨gx, rfl, _, hgx, _⟩ := HX.out.1.begins (by omega)
  have hB4 : Below w2.heap.size w2 (w3.setCell ⟨g, j, none⟩ (.int .u8 (u.toNat : Int))) := below_set hb3 hgb j _
  have RX4 := Lib.hid (HX.out.1.reads.below hB4 (fun a n c e => by simp only [Value.slice.injEq, Option.some.injEq] at e; rw [← e.1]; exact hgx))
  have B4 := Lib.hid (HX.out.2.trans (hB4.mono HX.out.2.size))
  have F1 : Hid (s ≤ maxLen) := Lib.hid (by unfold maxLen; omega)
  have F2 : Hid (s * 1 ≤ 140737488355328) := Lib.hid (by omega)
  have F3 : Hid (s + r ≤ maxLen) := Lib.hid (by unfold maxLen; omega)
  have F4 : Hid ((s + r) * 1 ≤ 140737488355328) := Lib.hid (by omega)
  have HB : Hid (s + r ≤ 3000) := Lib.hid (by omega)
  clear hx hcell hlen hy hr hs hj hk hb3 hu hgb hgx hB4 RX
  go_wp2_with (first | (go_at_call 12; refine (num_code _ _).mono ?_; rintro e w' ⟨rfl, rfl⟩) | (at_builtin; refine wpList_append_bytes rfl (.tmp 65) (.tmp 66) rfl w3.heap.size _ 0 [] rfl (Bs.empty_at (w3.setCell ⟨g, j, none⟩ (.int .u8 (u.toNat : Int))) w3.heap.size _ (by simp [World.setCell]) (by simp [World.setCell])) (.slice (some ⟨gx, 0, none⟩) s cx) s _ HX.out.1.1 rfl (RX4.out.alloc _) s (Nat.zero_add s).symm F1 F2 (by simp [World.setCell]) ?_; intro ao4 c4 w4 hown4 hb4) | (at_builtin; refine wpList_append_bytes rfl (.tmp 68) (.tmp 69) rfl w3.heap.size _ s _ rfl hown4 (.slice (some ⟨g, 0, none⟩) r cy) r _ HYS.out.1 rfl ((HYS.out.alloc _).reads.below hb4 (fun a n c e => by simp only [Value.slice.injEq, Option.some.injEq] at e; rw [← e.1]; exact hg3)) (s + r) rfl F3 F4 (Nat.le_trans (by simp [World.setCell]) hb4.size) ?_; intro ao5 c5 w5 hown5 hb5))
  have B5 := Lib.hid ((B4.out.trans (((Below.refl _ _).alloc (by simp [World.setCell]) _).mono B4.out.size |>.trans (hb4.mono HB3.out.size))).trans (hb5.mono HB3.out.size))
  have HO := Lib.hid hown5
  clear hown4 hb4 hown5 hb5 F1 F2 F3 F4 cd fd xx hmod ej
  refine (scan_any _ (s + r) _ w5 HO.out.reads HO.out.1 (Lib.hid (by have := HB.out; omega))).mono ?_
  rintro e w6 ⟨hb6, l, n9, al, cl, hs, _, rfl, ho⟩
  have hn := HN.out
  have HS := Lib.hid (scans_turned (a := p) (b := b) (k := k) (x := x) (y := y) (by have := H1.out.2; omega) (by have := H2.out.2; omega) (by rw [← hn.2.2.1]; exact hn.2.2.2.1) HY0.out (by rw [← hn.2.2.1, ← hn.2.2.2.2]; simpa using hs))
  obtain ⟨rfl, hn9⟩ := HS.out
  have hn10 : (n9 : Int) = (s : Int) := by have := H1.out.2; have := hn.2.1; omega
  rw [hn10]
  obtain ⟨g9, ap, cp, rfl, cc, rr⟩ := ho.one
  have B6 := Lib.hid (B5.out.trans (hb6.mono B5.out.size))
  have cc1 : w6.drew.cell? ⟨g9, 0, none⟩ = some (.slice ap p.length cp) := cc
  have cv1 : (convert 22 9 (.slice ap p.length cp)).run Try.prog w6.drew = .ok (.string ⟨p.toArray⟩) w6.drew := conv_up (w := w6) rr _ ⟨rfl, rfl, rfl, Nat.le_refl _, fun _ _ => rfl⟩
  have cv2 : (convert 22 9 (.slice a1 n c1)).run Try.prog w6.drew = .ok (.string ⟨p.toArray⟩) w6.drew := conv_up (w := w6) (H1.out.1.later B6.out) _ ⟨rfl, rfl, rfl, Nat.le_refl _, fun _ _ => rfl⟩
  have B7 : Hid (Below w.heap.size w w6.drew) := Lib.hid (below_drewN B6.out 1)
  obtain ⟨sp, hsp⟩ : ∃ sp : ByteArray, sp = ⟨p.toArray⟩ := ⟨_, rfl⟩
  rw [← hsp] at cv1 cv2
  clear hb6 hs ho cc rr hn10 hn hn9 hsp
  go_wp2_with fail
  go_still_tail 19, (by kernel_rfl)
  change wpList _ _ _ _ _ w6.drew
  generalize w6.drew = w7 at *
  clear cc1 cv1 cv2
  go_wp2_with (go_at_call 7; refine (awake_frame _).mono ?_; rintro e w' ⟨rfl, hb9⟩)
  go_ret
  exact ⟨rfl, B7.out.trans (hb9.mono B7.out.size)⟩

theorem turned_nat (v1 v2 : Value) (n m : Nat) (p b : List UInt8) (z c : Int) (w : World) (h1 : Reads w v1 (bv p)) (h2 : Reads w v2 (bv b)) (e1 : n = p.length) (e2 : m = b.length) (hz : 0 ≤ z ∧ z ≤ 65535) (hc : 0 ≤ c ∧ c ≤ 255) :
    Calls Try.prog 5 #[v1, v2, .int .u16 z, .int .u8 c] w fun e w' => e = .returned (.bool true) ∧ Below w.heap.size w w' := by
  obtain ⟨q, rfl⟩ : ∃ q : Nat, z = (q : Int) := ⟨z.toNat, (Int.toNat_of_nonneg hz.1).symm⟩
  obtain ⟨y, rfl⟩ : ∃ y : UInt8, c = ((y.toNat : Nat) : Int) := ⟨UInt8.ofNat c.toNat, by rw [UInt8.toNat_ofNat']; omega⟩
  exact turned_frame v1 v2 n m p b q y w h1 h2 e1 e2 (by omega)

end Go.Proofs.Ytooadeoebdbngaa
