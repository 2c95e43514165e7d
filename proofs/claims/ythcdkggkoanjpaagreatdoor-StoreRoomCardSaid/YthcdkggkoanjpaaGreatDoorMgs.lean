/- Regions that draw their order and end with an operation that may write what was there: one walk, whatever is kept of a world. Numbers and types by name. -/
import Derived.Test.YthcdkggkoanjpaaGreatDoorSra
import Derived.Test.YthcdkggkoanjpaaGreatDoorChecked
import Derived.WalkKit
import Derived.WalkLawsBesides
import Derived.Lib.Hide
import Derived.BigQuiet
import Derived.Deep.QuietTactic
import Derived.ArgAppend
import Derived.OwnWalk
import Derived.Deep.RegionLaw
import Derived.Deep.AppendLies
import Derived.Lib.AppendStr
import Derived.Laws.IdiomStrings
import Derived.Lib.SlBytesConst
import Derived.BigRegion
import Derived.RegionTactic
import Derived.ChangeAlike
import Derived.Maps.OwnSet
import Derived.Sort.KeysCollected
import Derived.WalkSpells
import Derived.StillTactics
import Derived.StillTailTactics
import Derived.Test.YthcdkggkoanjpaaGreatDoorTxt
import Derived.Test.YthcdkggkoanjpaaGreatDoorWri
import Derived.Test.YthcdkggkoanjpaaGreatDoorPut
/- StoreAgain, walked over what is asked of the code's store. Numbers and types by name. -/
namespace Go.Proofs.YthcdkggkoanjpaaGreatDoor
open Go.RowKit Go.Lib
set_option maxRecDepth 100000
theorem reads_cell10 {w : World} {ao : Option Addr} {n c k : Nat} {xs : List Value} {u : Value} (h : Reads w (.slice ao n c) xs) (hu : xs[k]? = some u) : ∃ a, ao = some a ∧ w.cell? (a.add k) = some u := by
  obtain ⟨ao', c', e, _, hn, hc⟩ := h
  cases e
  cases ao with
  | none => rw [(hn rfl).1] at hu; cases hu
  | some a => exact ⟨a, rfl, hc a rfl k u hu⟩
def AgainAt (w0 wr : World) (base b j : Nat) (sv : Value) (sq : Nat) : Prop :=
  ∃ M S B O F, DK M S B O [] ∧ Well 440000 M j ∧ B.length ≤ 81 ∧ bulkP S ≤ 230000 ∧ SesD w0 wr base b M F ∧ PRow wr F sv sq (applyAll S B) ∧ Meas 41 (applyAll S B)
theorem again_open {M : MD} {S : List Prm} {B : List (List Opm)} {O : List Opm} (h : DK M S B O []) : DK (openS M).M S B O [] := by
  obtain ⟨o1, o2⟩ := dk_open h
  by_cases he : (openS M).e = 0
  · obtain ⟨_, m, hm, k1⟩ := o2 he
    have hmn : m = B := by
      rcases hm with h | ⟨h, _⟩
      · exact h
      · exact absurd rfl h
    rw [hmn] at k1
    exact k1.dk
  · obtain ⟨t', k1, k2⟩ := o1 he
    rw [k2 rfl] at k1
    exact k1
set_option maxHeartbeats 8000000 in
theorem again_store {C : SP} {I : SI} (K : StK C I) (v1 : Value) (n1 : Nat) (LL : List (List Opm)) (zm : Nat) (v3 : Value) (A : List UInt8) (kp : Nat) (dn : Bool) (w : World) (h1 : Obs w v1 n1 LL) (hzm : zm < 65536) (h3 : Reads w v3 (bv A)) (h3l : A.length ≤ maxLen) (hkp : kp < 256) (ht : Tab w) :
    Calls Tryz.prog 5 #[v1, .int .u16 zm, v3, .int .u8 kp, .bool dn] w fun e w' => e = .returned (.bool true) ∧ Below w.heap.size w w' := by
  obtain ⟨a1, c1, rfl⟩ := h1.shape
  obtain ⟨nA, hnA⟩ : ∃ nA, nA = A.length := ⟨_, rfl⟩
  obtain ⟨a3, c3, rfl⟩ : ∃ ao c, v3 = .slice ao nA c := by obtain ⟨ao, c, rfl, _⟩ := h3; exact ⟨ao, c, by rw [bv_length, hnA]⟩
  rw [← hnA] at h3l
  have hm3 : nA ≤ 9223372036854775807 := by unfold maxLen at h3l; omega
  have HA := Lib.hid (And.intro h3 hnA)
  have hn1 := h1.2.1
  unfold maxLen at hn1
  have H1 := Lib.hid h1
  have HT := Lib.hid ht
  have HK := Lib.hid K
  have hC := heavy_wal (.slice a1 n1 c1) n1 LL none ⟨0, 0, none⟩ 0 0 (fun _ => ⟨0, none, 0, [], 0, false, none, 0, []⟩) w h1 ⟨.inr ⟨rfl, rfl⟩, Nat.zero_le _, fun i hi => absurd hi (Nat.not_lt_zero _)⟩
  obtain ⟨km, hkm⟩ : ∃ km, km = zm % 400 := ⟨_, rfl⟩
  have r3 : Int.tmod (zm : Int) 400 = (km : Int) := by rw [hkm]; exact Int.ofNat_tmod zm 400
  have r4 : (zm : Int) % 400 = (km : Int) := by rw [hkm]; omega
  clear h1 ht K hkm h3 h3l hnA
  go_enter Tryz.func5, Tryz.ntmps5
  go_wp2_with fail
  refine hC.mono ?_
  rintro e w1 ⟨g, q, rfl, hw1, hb⟩
  have B1 : Hid (Grow w w1) := Lib.hid (show Grow w w1 by rw [hw1]; exact below_drewN (Below.refl _ w) q)
  clear hC hw1
  cases g with
  | true =>
    clear hb
    go_wp2_with (go_at_call 12; refine (awake_store HK.out _ (HT.out.later B1.out)).mono ?_; rintro e w' ⟨rfl, hb9⟩)
    go_ret
    exact ⟨rfl, B1.out.trans hb9⟩
  | false =>
  have HL := Lib.hid (hb rfl)
  clear hb
  by_cases x1 : 20 < nA
  · have y1 : (20 : Int) < (nA : Int) := by omega
    go_wp2_with (go_at_call 12; refine (awake_store HK.out _ (HT.out.later B1.out)).mono ?_; rintro e w' ⟨rfl, hb9⟩)
    go_ret
    exact ⟨rfl, B1.out.trans hb9⟩
  have y1 : ¬ (20 : Int) < (nA : Int) := by omega
  obtain ⟨w1k, hw1k⟩ : ∃ w1k, w1k = w1.alloc (.cells #[.int .i64 (kp : Int)] 3) := ⟨_, rfl⟩
  have N0 := new_cd 100000 0 false (.slice none 0 0) (.slice (some ⟨w1.heap.size, 0, none⟩) 1 1) [] [(kp : Int)] w1k (Reads.nil w1k) (by rw [hw1k]; exact Reads.lit w1 (iv [(kp : Int)]) 3 (0, 0) 1 rfl) (by simp) (by simp)
  obtain ⟨M0, e0⟩ : ∃ M, M = MD.new 100000 0 false [] [(kp : Int)] := ⟨_, rfl⟩
  rw [← e0] at N0
  have HM0 := Lib.hid e0
  have B1k : Hid (Grow w w1k) := Lib.hid (B1.out.trans (by rw [hw1k]; exact Below.alloc (Below.refl _ _) (Nat.le_refl _) _))
  clear e0
  go_wp2_with fail
  rw [← hw1k]
  refine N0.mono ?_
  rintro e w2 ⟨b, F2, rfl, hc2, t2⟩
  have p0 : PD 0 M0 [] [] [] [] := by rw [HM0.out]; exact pd_new _ _ _ _ _ (by decide) (by simp) (by simp)
  have s0 : Still8 M0 := by rw [HM0.out]; exact ⟨rfl, Int.le_refl _, rfl⟩
  obtain ⟨c1', c2', c3', c4', c5'⟩ := calm_new p0 Meas.nil s0
  have hs2 : SesD w w2 w1k.heap.size b M0 F2 := ⟨hc2, B1k.out.trans (tg9 t2), B1k.out.size⟩
  have O2 := sess_open HK.out (km : Int) hs2 HT.out (p0.ofit (by decide) (by decide)) c1'
  have HO := Lib.hid (And.intro c2' (And.intro c3' (And.intro c4' (And.intro c5' B1k.out.size))))
  unfold theDisk theSt at O2
  unfold theDisk
  clear hc2 t2 p0 s0 c1' c2' c3' c4' c5' hs2 N0 hw1k
  go_wp2_with fail
  refine O2.mono ?_
  rintro e w3 ⟨x, rfl, F3, hs3, k3, t3⟩
  have H3 : Hid (CalmAt C w w3 w1k.heap.size b x (max (km : Int) 0) 100000 0 (.slice none 0 0) 0) := Lib.hid ⟨_, _, _, _, _, _, F3, HO.out.2.2.2.1, HO.out.1, HO.out.2.1.trans (by rw [HM0.out]; rfl), hs3, by rw [HO.out.2.2.1]; exact PRow.nil w3 F3⟩
  clear hs3 k3 t3 O2
  go_wp2_with (go_at_call 17; refine (num_at _ _).mono ?_; rintro e w' ⟨rfl, rfl⟩)
  clear r3 r4
  go_loopw [14, 15] (fun sv iv wr => ∃ (k sq c : Nat) (ao : Option Addr), k ≤ n1 ∧ iv = .int .i64 k ∧ sv = .slice ao sq c ∧ Hid (CalmAt C w wr w1k.heap.size b x (max (km : Int) 0) 100000 k (.slice ao sq c) sq))
    (fun _ i _ => n1 - (RowKit.intOf i).toNat)
  case atStart => exact ⟨0, 0, 0, none, Nat.zero_le _, rfl, rfl, H3⟩
  case round =>
    clear H3
    obtain ⟨k, sq, cs, asv, hk, rfl, rfl, hC⟩ := hrel
    by_cases hlt : k < n1
    · have h3 : (k : Int) < (n1 : Int) := by omega
      obtain ⟨M, n, L, S, B, O, F, hps, hst, hcap, hse, hrow⟩ := hC.out
      obtain ⟨a, X, ap, cp, rfl, hX, cx, hr⟩ := H1.out.at hlt
      have hm : mild X := HL.out.2.2.1 k X hX
      have hk80 : k + 1 ≤ 80 := by have := HL.out.1; omega
      have CM := sess_commit HK.out hse HT.out (hps.sfit hk80 hm) (vo := .slice ap X.length cp) hr (by have := hm.2; omega)
      obtain ⟨g1, g2, g3, g4, g5, g6, g7, g8⟩ := calm_step hps hst hk80 hm (max (km : Int) 0)
      have hgw := hse.2.1
      have cx' : wr.cell? (a.add k) = some (.slice ap X.length cp) := grow_cell hgw cx
      have cxs : ∀ w', Grow w w' → w'.cell? (a.add k) = some (.slice ap X.length cp) := fun w' hg => grow_cell hg cx
      have HR := Lib.hid (And.intro hr (And.intro hm hX))
      obtain ⟨R, hR⟩ : ∃ R, R = commitS (max (km : Int) 0) M n false L X := ⟨_, rfl⟩
      rw [← hR] at CM g1 g2 g3 g4 g5 g6 g7 g8
      have HG := Lib.hid (And.intro g1 (And.intro g2 (And.intro g3 (And.intro g4 (And.intro g5 (And.intro g6 (And.intro g7 (And.intro g8 (And.intro hcap (And.intro hrow hps.ml))))))))))
      have HCX := Lib.hid cxs
      have hxl : X.length ≤ 60 := hm.2
      obtain ⟨xl, hxl2⟩ : ∃ xl, xl = X.length := ⟨_, rfl⟩
      rw [← hxl2] at cx' CM
      have HXL := Lib.hid hxl2
      unfold theSt at CM
      clear hps hst hcap hse hrow cx hr hm hX hR g1 g2 g3 g4 g5 g6 g7 g8 hgw cxs hxl hxl2 hC
      go_wp2_with fail
      refine CM.mono ?_
      rintro e w4 ⟨k4, rfl, hk4, F4, hs4, f4, t4⟩
      have hrow4 := HG.out.2.2.2.2.2.2.2.2.2.1.step t4 f4
      have hR4 := Lib.hid (HCX.out w4 hs4.2.1)
      have cx4 : w4.cell? (a.add k) = some (.slice ap xl cp) := by rw [HXL.out]; exact hR4.out
      have H4 := Lib.hid (And.intro hs4 (And.intro hrow4 hk4))
      clear hs4 f4 t4 hrow4 hk4 CM cx'
      by_cases he : k4 = 0
      · subst he
        have AP := ref_apply (.slice asv sq cs) (.slice ap xl cp) sq xl L X w4 H4.out.2.1.1 (by rw [HXL.out]; exact HR.out.1.later H4.out.1.2.1) (by
          have h1 := HG.out.2.2.2.2.2.2.2.2.2.2.len
          have h2 := H4.out.2.1.1.1
          have h3 := HL.out.1
          omega) (by have := HR.out.2.1.2; have := HXL.out; omega)
        go_wp2_with (first | (go_at_call 17; refine (num_at _ _).mono ?_; rintro e w' ⟨rfl, rfl⟩) | (go_at_call 28; refine AP.mono ?_; rintro e w5 ⟨a5, q5, c5, rfl, hq5, ho5, hb5⟩; have H5 := Lib.hid (And.intro hq5 (And.intro ho5 hb5)); clear hq5 ho5 hb5))
        refine ⟨⟨k + 1, q5, c5, a5, by omega, by go_num, rfl, Lib.hid ?_⟩, by simp [RowKit.intOf]; omega⟩
        obtain ⟨⟨S', B', O', hp⟩, g2, g3, g4, g5, g6, g7, g8, hcap, hrow, hml⟩ := HG.out
        obtain ⟨hq5, ho5, hb5⟩ := H5.out
        obtain ⟨hs4, hrow4, hk4⟩ := H4.out
        have hRL := (g5 hk4.symm).1
        have hmx := hml.apply HR.out.2.1.1 HR.out.2.1.2
        obtain ⟨z1, z2⟩ := sure_next HK.out hs4 ho5 hq5 (by have := hmx.bulk; have := HL.out.1; omega) hb5
        rw [g2] at z1
        exact ⟨R.M, R.n, R.L, S', B', O', F4, hp, g3, g4.trans hcap, z1, by rw [hRL]; exact z2⟩
      · have stay : Hid (CalmAt C w w4 w1k.heap.size b x (max (km : Int) 0) 100000 (k + 1) (.slice asv sq cs) sq) := Lib.hid (by
          obtain ⟨⟨S', B', O', hp⟩, g2, g3, g4, g5, g6, g7, g8, hcap, hrow, hml⟩ := HG.out
          obtain ⟨hs4, hrow4, hk4⟩ := H4.out
          have hRL := g6 (by rw [← hk4]; exact he)
          rw [g2] at hs4
          exact ⟨R.M, R.n, R.L, S', B', O', F4, hp, g3, g4.trans hcap, hs4, by rw [hRL]; exact hrow4⟩)
        go_wp2_with (go_at_call 17; refine (num_at _ _).mono ?_; rintro e w' ⟨rfl, rfl⟩)
        exact ⟨⟨k + 1, sq, cs, asv, by omega, by go_num, rfl, stay⟩, by simp [RowKit.intOf]; omega⟩
    · have h3 : ¬ (k : Int) < (n1 : Int) := by omega
      obtain rfl : k = n1 := by omega
      obtain ⟨M, n, L, S, B, O, F, hps, hst, hcap, hse, hrow⟩ := hC.out
      have hk40 := HL.out.1
      obtain ⟨Fd, Fi, hd, hi, hdF, hiF⟩ := hse.parts HK.out
      have HG0 : Hid (AgainAt w wr w1k.heap.size b 400 (.slice asv sq cs) sq) := Lib.hid ⟨M, S, B, O, Fd, hps.sk.dk, well_more hps.well (by omega), by have := hps.b; omega, by have := hps.ms.bulk; omega, hd, by rw [← hps.sk.L]; exact hrow.sub (fun k hk => (hdF k hk).1), by rw [← hps.sk.L]; exact hps.ml.more (by omega)⟩
      clear hps hst hcap hse hrow hd hi hdF hiF hC
      go_wp2_with fail
      go_loopw [16] (fun iv wr => ∃ i : Nat, i ≤ nA ∧ iv = .int .i64 i ∧ Hid (AgainAt w wr w1k.heap.size b (400 + 4 * i) (.slice asv sq cs) sq))
        (fun i _ => nA - (RowKit.intOf i).toNat)
      case atStart => exact ⟨0, Nat.zero_le _, rfl, HG0⟩
      case round =>
        clear HG0
        obtain ⟨i, hi, rfl, hA⟩ := hrel
        by_cases hin : i < nA
        · have h4 : (i : Int) < (nA : Int) := by omega
          obtain ⟨M, S, B, O, F, hdk, hw, hB, hS, hd, hrow, hme⟩ := hA.out
          obtain ⟨z, hz⟩ : ∃ z, A[i]? = some z := ⟨_, List.getElem?_eq_getElem (by have := HA.out.2; omega)⟩
          obtain ⟨az, rfl, hcz⟩ := reads_cell10 HA.out.1 (show (bv A)[i]? = some (.int .u8 (z.toNat : Int)) by simp [bv, hz])
          have hcz' : wr.cell? (az.add i) = some (.int .u8 (z.toNat : Int)) := grow_cell hd.2.1 hcz
          have hz256 := z.toNat_lt
          obtain ⟨zn, hzn⟩ : ∃ zn, zn = z.toNat := ⟨_, rfl⟩
          rw [← hzn] at hcz' hz256
          obtain ⟨z4, hz4⟩ : ∃ z4, z4 = zn % 4 := ⟨_, rfl⟩
          have r1 : Int.tmod (zn : Int) 4 = (z4 : Int) := by rw [hz4]; exact Int.ofNat_tmod zn 4
          have r2 : (zn : Int) % 4 = (z4 : Int) := by rw [hz4]; omega
          have r5 : wrap64 (1 + (z4 : Int)) = 1 + (z4 : Int) := by unfold wrap64; omega
          obtain ⟨tt, hdk', htt⟩ := dk_restart hdk 100000 (1 + (z4 : Int)) dn [] [(kp : Int)]
          obtain rfl := htt rfl
          have hw' := well_restart hw (cap := 100000) (cr := 1 + (z4 : Int)) (dn := dn) (zs := []) (ks := [(kp : Int)]) (by decide) (by simp) (by simp)
          have RK := sesd_restart_k hd (well_limW room10 hw (by omega)) 100000 (1 + (z4 : Int)) dn (kp : Int)
          have HX := Lib.hid (And.intro hdk' (And.intro hw' (And.intro hB (And.intro hS (And.intro hrow hme)))))
          unfold theDisk at RK
          clear hdk hw hB hS hd hrow hme hz hcz hzn hz4 htt hdk' hw' hA
          go_wp2_with fail
          refine RK.mono ?_
          rintro e w4 ⟨rfl, F4, hd4, f4, t4⟩
          have OA := sesd_open_any HK.out 50 hd4 HT.out (dk_ofit HX.out.1 HX.out.2.1 (by omega) room10 HX.out.2.2.1 HX.out.2.2.2.1)
          have H4 := Lib.hid (HX.out.2.2.2.2.1.step t4 f4)
          unfold theDisk at OA
          clear hd4 f4 t4 RK r1 r2 r5 hcz'
          go_wp2_with fail
          refine OA.mono ?_
          rintro e w5 ⟨u1, u2, rfl, F5, hd5, f5, t5⟩
          have H5 : Hid (AgainAt w w5 w1k.heap.size b (400 + 4 * (i + 1)) (.slice asv sq cs) sq) := Lib.hid ⟨_, S, B, O, F5, again_open HX.out.1, well_more (well_openS HX.out.2.1) (by omega), HX.out.2.2.1, HX.out.2.2.2.1, hd5, H4.out.step t5 f5, HX.out.2.2.2.2.2⟩
          clear hd5 f5 t5 OA
          go_wp2_with fail
          exact ⟨⟨i + 1, by omega, by go_num, H5⟩, by simp [RowKit.intOf]; omega⟩
        · have h4 : ¬ (i : Int) < (nA : Int) := by omega
          obtain rfl : i = nA := by omega
          obtain ⟨M, S, B, O, F, hdk, hw, hB, hS, hd, hrow, hme⟩ := hA.out
          obtain ⟨tt, hdk', htt⟩ := dk_restart hdk 100000 0 false [] []
          obtain rfl := htt rfl
          have hw' := well_restart hw (cap := 100000) (cr := 0) (dn := false) (zs := []) (ks := []) (by decide) (by simp) (by simp)
          have hst : Still8 (M.restart 100000 0 false [] []) := still_restart M 100000
          obtain ⟨q1, q2, q3⟩ := calm_open hdk' hst
          have hL4 : (openS (M.restart 100000 0 false [] [])).L = applyAll S B := by
            obtain ⟨_, m, hm, k1⟩ := (dk_open hdk').2 q1
            have hmn : m = B := by
              rcases hm with h | ⟨h, _⟩
              · exact h
              · exact absurd rfl h
            rw [k1.L, hmn]
          have RK := sesd_restart hd (well_limW room10 hw (by omega)) 100000 0 false
          have HX := Lib.hid (And.intro hdk' (And.intro hw' (And.intro hB (And.intro hS (And.intro hrow (And.intro hme (And.intro q1 hL4)))))))
          unfold theDisk at RK
          clear hdk hw hB hS hd hrow hme htt hdk' hw' q1 q2 q3 hL4 hst hA
          go_wp2_with fail
          refine RK.mono ?_
          rintro e w4 ⟨rfl, F4, hd4, f4, t4⟩
          have O4 := sess_open HK.out 50 hd4 HT.out (dk_ofit HX.out.1 HX.out.2.1 (by omega) room10 HX.out.2.2.1 HX.out.2.2.2.1) HX.out.2.2.2.2.2.2.1
          have H4 := Lib.hid (HX.out.2.2.2.2.1.step t4 f4)
          unfold theDisk theSt at O4
          clear hd4 f4 t4 RK
          go_wp2_with fail
          refine O4.mono ?_
          rintro e w5 ⟨y, rfl, F5, hs5, f5, t5⟩
          have A5 := sess_all HK.out hs5 (by rw [HX.out.2.2.2.2.2.2.2]; exact HX.out.2.2.2.2.2.1.slim (by decide))
          rw [HX.out.2.2.2.2.2.2.2] at A5
          have H5 := Lib.hid (And.intro (H4.out.step t5 f5) hs5.2.1)
          unfold theSt at A5
          clear hs5 f5 t5 O4
          go_wp2_with (go_at_call 17; refine (num_at _ _).mono ?_; rintro e w' ⟨rfl, rfl⟩)
          refine A5.mono ?_
          rintro e w6 ⟨a6, q6, c6, rfl, hp6, t6⟩
          have PP := pairs_at hp6 (H5.out.1.new t6).1 true (by simp)
          have H6 := Lib.hid (H5.out.2.trans (tg9 t6))
          clear hp6 t6 A5
          go_wp2_with fail
          refine PP.mono ?_
          rintro e w7 ⟨rfl, t7⟩
          have H7 := Lib.hid (H6.out.trans (tg9 t7))
          clear t7 PP
          go_wp2_with (go_at_call 12; refine (awake_store HK.out _ (HT.out.later H7.out)).mono ?_; rintro e w' ⟨rfl, hb9⟩)
          go_ret
          exact ⟨rfl, H7.out.trans hb9⟩
end Go.Proofs.YthcdkggkoanjpaaGreatDoor

/- The reference's row of files: a file into it. Numbers and types by name. -/
namespace Go.Proofs.YthcdkggkoanjpaaGreatDoor
open Go.RowKit Go.Maps Go.Sort Go.WideMaps
theorem own_drew {w : World} {base e size : Nat} {v : Value} {n : Nat} {xs : List Value} (h : w.ownsRow base e size v n xs) (q : Nat) : (w.drewN q).ownsRow base e size v n xs := h
end Go.Proofs.YthcdkggkoanjpaaGreatDoor

/- Read of either disk beside the other. Numbers and types by name. -/
namespace Go.Proofs.YthcdkggkoanjpaaGreatDoor
open Go.RowKit Go.Maps Go.Sort Go.WideMaps
theorem turn_grow {w w' : World} (t : Turn [] w w') : Grow w w' := t.below (Nat.le_refl _) (by simp)
end Go.Proofs.YthcdkggkoanjpaaGreatDoor

/- Regions that draw their order and end with an operation that may write what was there: one walk. Numbers and types by name. -/
namespace Go.Proofs.YthcdkggkoanjpaaGreatDoor
open Go.RowKit Go.Lib
section
variable {P : Program} {md : Region.Mode} {ops : Array Oper}
def waitB (md : Region.Mode) (ops : Array Oper) (k i : Nat) : Bool :=
  match ops[k]? with
  | none => false
  | some o => o.after.any fun e => Region.binds md e && e.on == i
theorem wait_not {k i : Nat} {listed : Array Bool} (h : waitB md ops k i = true) (hun : listed.getD i true = false) : k ∉ Region.ready md ops listed := by
  intro hm
  obtain ⟨_, o, ho, hall⟩ := mem_ready.1 hm
  unfold waitB at h
  rw [ho] at h
  obtain ⟨e, he, hb⟩ := Array.any_eq_true'.1 h
  simp only [Bool.and_eq_true, beq_iff_eq] at hb
  have h2 := hall e he hb.1
  rw [hb.2] at h2
  rcases Nat.lt_or_ge i listed.size with h' | h'
  · simp [h'] at hun h2; rw [hun] at h2; cases h2
  · simp [Array.getElem?_eq_none h'] at hun
def mvsOk (ops : Array Oper) (k : Nat) (items : List (Nat × Bool × Oper)) : Bool := mvOk ops items && items.all fun x => !x.2.1 || waitB .any ops k x.1
end
end Go.Proofs.YthcdkggkoanjpaaGreatDoor

namespace Go.Proofs.YthcdkggkoanjpaaGreatDoor
open Go.RowKit Go.Lib
section
variable {P : Program} {md : Region.Mode} {ops : Array Oper}
def wpMgs (G : World → World → Prop) (P : Program) (md : Region.Mode) (ops : Array Oper) (k : Nat) (Q : Act → World → Prop) : Nat → Array Bool → Act → World → Prop
  | 0, listed, a, w => Region.ready md ops listed = [] ∧ Q a w
  | fuel + 1, listed, a, w =>
    (Region.ready md ops listed = [] → Q a w) ∧
    ∀ i ∈ Region.ready md ops listed, mvOp P ops i (fun a' w' => (i = k ∨ G w w') ∧ wpMgs G P md ops k Q fuel (listed.setIfInBounds i true) a' w') a w
theorem wpAny_of_mgs {G : World → World → Prop} {k : Nat} {Q : Act → World → Prop} {Q' : Exit → Act → World → Prop} (hQ : ∀ a w, Q a w → Q' .normal a w) : ∀ (fuel : Nat) (listed : Array Bool) (a : Act) (w : World),
    wpMgs G P md ops k Q fuel listed a w → wpAny P md ops Q' fuel listed a w
  | 0, _, _, _, h => ⟨h.1, hQ _ _ h.2⟩
  | fuel + 1, _, _, _, h => ⟨fun h0 => hQ _ _ (h.1 h0), fun i hi => wpOp_mono (fun a' w' h' => wpAny_of_mgs hQ fuel _ a' w' h'.2) (wpOp_of_mvOp (h.2 i hi))⟩
theorem wpMgs_first {G : World → World → Prop} (g0 : ∀ w, G w w) (g1 : ∀ {a b c}, G a b → G b c → G a c) {k : Nat} {Q : Act → World → Prop} {i : Nat} {oi : Oper} {v : Value} (hi : ops[i]? = some oi) (hL : waitB md ops k i = true) (hsel : ∀ (j : Nat) (o : Oper) cs b, ops[j]? = some o → o.op ≠ .select cs b) :
    ∀ (fuel : Nat) (listed : Array Bool) (a : Act) (w : World),
      (∀ j oj, ops[j]? = some oj → j ≠ i → listed.getD j true = false → (∀ e ∈ oj.after, Region.binds md e = true → e.on ≠ i) → oi.apart ops oj = true) →
      i ∈ Region.ready md ops listed → Upg G P ops w oi v a →
      wpMgs G P md ops k Q fuel (listed.setIfInBounds i true) (a.put oi.dst v) w → wpMgs G P md ops k Q (fuel + 1) listed a w := by
  intro fuel
  induction fuel with
  | zero =>
    intro listed a w _ hr hy H
    refine ⟨fun h => (by rw [h] at hr; cases hr), fun j hj => ?_⟩
    by_cases hji : j = i
    · subst hji; exact YieldsAt.mvOp hi (hy w (g0 w)) ⟨.inr (g0 w), H⟩
    · have := ready_mono hj hji
      rw [H.1] at this
      cases this
  | succ fuel ih =>
    intro listed a w hfree hr hy H
    refine ⟨fun h => (by rw [h] at hr; cases hr), fun j hj => ?_⟩
    by_cases hji : j = i
    · subst hji; exact YieldsAt.mvOp hi (hy w (g0 w)) ⟨.inr (g0 w), H⟩
    · have hjk : j ≠ k := by
        rintro rfl
        exact wait_not hL (mem_ready.1 hr).1 hj
      have h1 := mvOp_mono (K' := fun a' w' => G w w' ∧ wpMgs G P md ops k Q fuel ((listed.setIfInBounds i true).setIfInBounds j true) a' w') (fun a' w' h => ⟨h.1.resolve_left hjk, h.2⟩) (H.2 j (ready_mono hj hji))
      obtain ⟨hjun, oj, hoj, hall⟩ := mem_ready.1 hj
      have hnot : ∀ e ∈ oj.after, Region.binds md e = true → e.on ≠ i := fun e he hb heq => by
        have h1 := hall e he hb
        have h0 := (mem_ready.1 hr).1
        rw [heq] at h1
        rcases Nat.lt_or_ge i listed.size with h' | h'
        · simp [h'] at h0 h1; rw [h0] at h1; cases h1
        · simp [Array.getElem?_eq_none h'] at h1
      have h2 := mvOp_putg (G := G) g1 hoj (hfree j oj hoj hji hjun hnot) (fun cs b => hsel i oi cs b hi) (fun cs b => hsel j oj cs b hoj) hy h1
      have hfree' : ∀ q ok, ops[q]? = some ok → q ≠ i → (listed.setIfInBounds j true).getD q true = false →
          (∀ e ∈ ok.after, Region.binds md e = true → e.on ≠ i) → oi.apart ops ok = true := fun q ok hk hki hun hno => by
        refine hfree q ok hk hki ?_ hno
        by_cases hjk : j = q
        · subst hjk; exact hjun
        · rw [getD_set_ne true hjk] at hun; exact hun
      refine mvOp_mono (fun a' w' h3 => ⟨.inr h3.1, ih (listed.setIfInBounds j true) a' w' hfree' (ready_mono hr (Ne.symm hji)) h3.2.1 ?_⟩) h2
      rw [Array.setIfInBounds_comm _ _ hji]
      exact h3.2.2
def wpLgs (G : World → World → Prop) (P : Program) (ops : Array Oper) (k : Nat) (Q : Act → World → Prop) : List (Nat × Bool × Oper) → Act → World → Prop
  | [], a, w => Q a w
  | (_, true, o) :: r, a, w => ∃ v, Upg G P ops w o v a ∧ wpLgs G P ops k Q r (a.put o.dst v) w
  | (j, false, o) :: r, a, w => mvRun P ops o (fun a' w' => (j = k ∨ G w w') ∧ wpLgs G P ops k Q r a' w') a w
theorem wpMgs_of_lin {G : World → World → Prop} (g0 : ∀ w, G w w) (g1 : ∀ {a b c}, G a b → G b c → G a c) {k : Nat} {Q : Act → World → Prop} (hs : Region.noSelect ops = true) : ∀ (l : List (Nat × Bool × Oper)) (listed : Array Bool) (a : Act) (w : World), (∀ x ∈ l, ops[x.1]? = some x.2.2) → (∀ x ∈ l, x.2.1 = true → waitB md ops k x.1 = true) →
    mvB md ops l listed = true → wpLgs G P ops k Q l a w → wpMgs G P md ops k Q l.length listed a w
  | [], _, _, _, _, _, hB, h => ⟨by simpa [mvB] using hB, h⟩
  | (j, true, o) :: r, listed, a, w, hat, hnk, hB, h => by
    simp only [mvB, Bool.and_eq_true] at hB
    obtain ⟨v, hy, hK⟩ := h
    have h0 : ops[j]? = some o := hat (j, true, o) (List.mem_cons_self ..)
    exact wpMgs_first (G := G) g0 g1 h0 (hnk (j, true, o) (List.mem_cons_self ..) rfl) (Region.noSelect_spec hs) r.length listed a w (Region.free_spec h0 hB.1.2) (by simpa using hB.1.1) hy
      (wpMgs_of_lin (G := G) g0 g1 hs r _ _ w (fun x hx => hat x (by simp [hx])) (fun x hx => hnk x (by simp [hx])) hB.2 hK)
  | (j, false, o) :: r, listed, a, w, hat, hnk, hB, h => by
    simp only [mvB, Bool.and_eq_true, decide_eq_true_eq] at hB
    refine ⟨fun h1 => (by rw [hB.1] at h1; cases h1), fun i hi => ?_⟩
    rw [hB.1] at hi
    obtain rfl : i = j := by simpa using hi
    have h0 : ops[i]? = some o := hat (i, false, o) (List.mem_cons_self ..)
    have hm : mvOp P ops i (fun a' w' => (i = k ∨ G w w') ∧ wpLgs G P ops k Q r a' w') a w := by unfold mvOp; simp only [h0]; exact h
    exact mvOp_mono (fun a' w' h' => ⟨h'.1, wpMgs_of_lin (G := G) g0 g1 hs r _ a' w' (fun x hx => hat x (by simp [hx])) (fun x hx => hnk x (by simp [hx])) hB.2 h'.2⟩) hm
theorem wp_region_mgs (G : World → World → Prop) (g0 : ∀ w, G w w) (g1 : ∀ {a b c}, G a b → G b c → G a c) {id : Nat} {Q : Exit → Act → World → Prop} {a : Act} {w : World} {l : List Oper} (k : Nat) (segs : List (Nat × Nat × Bool)) (hm : P.follows .mixedOrders = true) (hB : mvsOk l.toArray k (mvAll segs l) = true)
    (h : wpLgs G P l.toArray k (fun a' w' => Q .normal a' w') (mvAll segs l) a w.drew) : (Code.region id l.toArray true).wp P Q a w := by
  simp only [mvsOk, mvOk, Bool.and_eq_true, beq_iff_eq] at hB
  refine wp_region_any hm (wpAny_of_mgs (G := G) (k := k) (Q := fun a' w' => Q .normal a' w') (fun _ _ h => h) _ _ _ _ ?_)
  have := wpMgs_of_lin (G := G) g0 g1 (md := .any) (k := k) hB.1.1.1 (mvAll segs l) (Array.replicate l.toArray.size false) a w.drew (mvAll_at l segs) (fun x hx hb => by
    have := List.all_eq_true.1 hB.2 x hx
    simp only [Bool.or_eq_true, Bool.not_eq_true'] at this
    rcases this with h | h
    · rw [hb] at h; cases h
    · exact h) hB.1.2 h
  rw [hB.1.1.2] at this
  exact this
theorem wpLgs_nil {G : World → World → Prop} {k : Nat} {Q : Act → World → Prop} {a : Act} {w : World} (h : Q a w) : wpLgs G P ops k Q [] a w := h
theorem wpLgs_still {G : World → World → Prop} {k : Nat} {Q : Act → World → Prop} {j : Nat} {o : Oper} {r : List (Nat × Bool × Oper)} {a : Act} {w : World} (v : Value) (hv : ∀ w', G w w' → ∀ K : Value → Prop, K v → mvVal P ops o a w' K)
    (h : ∀ K : Act → Prop, (∀ a, wpLgs G P ops k Q r a w → K a) → K (a.put o.dst v)) : wpLgs G P ops k Q ((j, true, o) :: r) a w := by
  refine ⟨v, fun w' hg => ?_, h _ fun _ h => h⟩
  have := hv w' hg (fun u => u = v) rfl
  unfold mvVal at this
  unfold YieldsAt
  by_cases hw : Region.wanted o (yielded ops a.tmps) = true
  · left
    rw [if_pos hw] at this
    refine ⟨hw, ?_⟩
    split at this
    · next heq => obtain ⟨rfl, rfl⟩ := this; exact .inl heq
    · next heq => obtain ⟨rfl, rfl⟩ := this; exact .inr (.inl ⟨heq, rfl⟩)
    · next heq => obtain ⟨rfl, u, hc, rfl⟩ := this; exact .inr (.inr ⟨_, _, heq, hc⟩)
    · exact this.elim
  · right
    rw [if_neg hw] at this
    exact ⟨by simpa using hw, this.symm⟩
theorem wpLgs_call {G : World → World → Prop} {k : Nat} {Q : Act → World → Prop} {j : Nat} {o : Oper} {r : List (Nat × Bool × Oper)} {a : Act} {w : World}
    (h : ∀ K : Act → World → Prop, (∀ a w', G w w' → wpLgs G P ops k Q r a w' → K a w') → mvRun P ops o K a w) : wpLgs G P ops k Q ((j, false, o) :: r) a w :=
  mvRun_mono (fun _ _ h => ⟨.inr h.1, h.2⟩) (h (fun a' w' => G w w' ∧ wpLgs G P ops k Q r a' w') fun _ _ hg hk => ⟨hg, hk⟩)
theorem wpLgs_last {G : World → World → Prop} {k : Nat} {Q : Act → World → Prop} {o : Oper} {r : List (Nat × Bool × Oper)} {a : Act} {w : World}
    (h : ∀ K : Act → World → Prop, (∀ a w', wpLgs G P ops k Q r a w' → K a w') → mvRun P ops o K a w) : wpLgs G P ops k Q ((k, false, o) :: r) a w :=
  mvRun_mono (fun _ _ h => ⟨.inl rfl, h⟩) (h (fun a' w' => wpLgs G P ops k Q r a' w') fun _ _ hk => hk)
end
end Go.Proofs.YthcdkggkoanjpaaGreatDoor
