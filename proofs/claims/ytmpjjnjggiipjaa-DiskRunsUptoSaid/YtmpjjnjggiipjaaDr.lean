/- DiskRuns, walked. Numbers and types by name. -/
import Derived.Test.YtmpjjnjggiipjaaSm
import Derived.Test.YtmpjjnjggiipjaaHvy
/- Any act, on both disks. Numbers and types by name. -/
namespace Go.Proofs.Ytmpjjnjggiipjaa
open Go.RowKit Go.Maps Go.Sort Go.WideMaps

theorem reads_in {w : World} {v : Value} {xs : List Value} (h : Reads w v xs) (hne : xs ≠ []) : ∀ a n c, v = .slice (some a) n c → a.block < w.heap.size := by
  obtain ⟨ao, c, e, h1, h2, h3⟩ := h
  intro a n c' hv
  obtain ⟨u, r, rfl⟩ : ∃ u r, xs = u :: r := by
    cases xs with
    | nil => exact absurd rfl hne
    | cons u r => exact ⟨u, r, rfl⟩
  rw [e] at hv
  simp only [Value.slice.injEq] at hv
  have h0 := h3 a hv.1 0 u rfl
  have := World.block_lt_of_cell? w _ h0
  have e2 : (a.add 0).block = a.block := by unfold Addr.add; split <;> rfl
  rwa [e2] at this
theorem bv_ne {l : List UInt8} (h : l ≠ []) : bv l ≠ [] := by cases l with | nil => exact absurd rfl h | cons a b => simp [bv]
theorem iv_ne {l : List Int} (h : l ≠ []) : iv l ≠ [] := by cases l with | nil => exact absurd rfl h | cons a b => simp [iv]

def actOf (v : AV) : Value := actV v.d v.nm v.to (.slice v.aB v.l.length v.cB) v.n v.p.cap (.slice v.p.aF v.p.zs.length v.p.cF) v.p.cr v.p.dn (.slice v.p.aK v.p.ks.length v.p.cK)

theorem do_any {K : Nat} (hK : 120 * K < 900000000) (w0 w : World) (base b r j : Nat) (M : MD) (v : AV) (h : Both (· < w0.heap.size) w base b r M M) (hh : Held K M j) (hj : j < 120) (hs : Small v) (hlB : v.l.length ≤ K)
    (hrB : Reads w0 (.slice v.aB v.l.length v.cB) (bv v.l)) (hP : PlanOk w0 v.p) (hS : Stays (· < w0.heap.size) w0 w) :
    Calls Try.prog 8 #[theDisk b, theRef r, actOf v] w fun e w' => e = .returned (.bool true) ∧
      ∃ M', Held K M' (j + 1) ∧ Both (· < w0.heap.size) w' base b r M' M' ∧ Stays (· < w0.heap.size) w w' ∧ w.heap.size < w'.heap.size := by
  have hl := held_lim hK hh (by omega)
  obtain ⟨s1, s2, s3, s4⟩ := hs
  have hri : Rising M.fs := by obtain ⟨_, _, _, _, h1, _⟩ := h; exact h1.2.1.rising
  have hbB : v.l ≠ [] → ∀ a m c, Value.slice v.aB v.l.length v.cB = .slice (some a) m c → a.block < w0.heap.size := fun hne => reads_in hrB (bv_ne hne)
  have hbF : v.p.zs ≠ [] → ∀ a m c, Value.slice v.p.aF v.p.zs.length v.p.cF = .slice (some a) m c → a.block < w0.heap.size := fun hne => reads_in hP.rF (iv_ne hne)
  have hbK : v.p.ks ≠ [] → ∀ a m c, Value.slice v.p.aK v.p.ks.length v.p.cK = .slice (some a) m c → a.block < w0.heap.size := fun hne => reads_in hP.rK (iv_ne hne)
  have hrB1 := hS.reads hrB fun hne => reads_in hrB hne
  have hrF1 := hS.reads hP.rF fun hne => reads_in hP.rF hne
  have hrK1 := hS.reads hP.rK fun hne => reads_in hP.rK hne
  have hllB : v.l.length ≤ 50000000 := by omega
  have hz : v.nm.size ≤ 1000000 := by omega
  have hz2 : v.to.size ≤ 1000000 := by omega
  have put : ∀ op : Opn, Adds op K → Calls Try.prog 8 #[theDisk b, theRef r, actOf v] w (fun e w' => e = .returned (.bool true) ∧ Both (· < w0.heap.size) w' base b r (M.act op).2 (M.act op).2 ∧ Stays (· < w0.heap.size) w w' ∧ w.heap.size < w'.heap.size) →
      Calls Try.prog 8 #[theDisk b, theRef r, actOf v] w fun e w' => e = .returned (.bool true) ∧
        ∃ M', Held K M' (j + 1) ∧ Both (· < w0.heap.size) w' base b r M' M' ∧ Stays (· < w0.heap.size) w w' ∧ w.heap.size < w'.heap.size := fun op ho hc =>
    hc.mono fun e w' ⟨he, h1⟩ => ⟨he, _, held_act hh ho hri, h1⟩
  obtain ⟨d, nm, to, aB, cB, l, n, p⟩ := v
  simp only [] at *
  by_cases e0 : d = 0
  · subst e0; exact put _ (adds_create K nm.data.toList) (do_create _ base b r M nm to aB l.length cB n p.cap p.aF p.zs.length p.cF p.cr p.dn p.aK p.ks.length p.cK w h hl hz hz2)
  by_cases e1 : d = 1
  · subst e1; exact put _ (adds_append K nm.data.toList l hlB) (do_append1 _ base b r M nm to aB l.length cB n p.cap p.aF p.zs.length p.cF p.cr p.dn p.aK p.ks.length p.cK w h hl hz hz2 l rfl hrB1 hllB hh.cap hbB)
  by_cases e2 : d = 2
  · subst e2; exact put _ (adds_append K nm.data.toList l hlB) (do_append2 _ base b r M nm to aB l.length cB n p.cap p.aF p.zs.length p.cF p.cr p.dn p.aK p.ks.length p.cK w h hl hz hz2 l rfl hrB1 hllB hh.cap hbB)
  by_cases e3 : d = 3
  · subst e3; exact put _ (adds_sync K nm.data.toList) (do_sync _ base b r M nm to aB l.length cB n p.cap p.aF p.zs.length p.cF p.cr p.dn p.aK p.ks.length p.cK w h hl hz hz2)
  by_cases e4 : d = 4
  · subst e4; exact put _ (adds_cut K nm.data.toList n) (do_cut _ base b r M nm to aB l.length cB n p.cap p.aF p.zs.length p.cF p.cr p.dn p.aK p.ks.length p.cK w h hl hz hz2)
  by_cases e5 : d = 5
  · subst e5; exact put _ (adds_rename K nm.data.toList to.data.toList) (do_rename _ base b r M nm to aB l.length cB n p.cap p.aF p.zs.length p.cF p.cr p.dn p.aK p.ks.length p.cK w h hl hz hz2)
  by_cases e6 : d = 6
  · subst e6; exact put _ (adds_remove K nm.data.toList) (do_remove _ base b r M nm to aB l.length cB n p.cap p.aF p.zs.length p.cF p.cr p.dn p.aK p.ks.length p.cK w h hl hz hz2)
  by_cases e7 : d = 7
  · subst e7
    exact (do_restart _ base b r M nm to aB l.length cB n p.cap p.aF p.cF p.zs p.ks p.cr p.dn p.aK p.cK w h hl hrF1 hrK1 hbF hbK s1 s2).mono fun e w' ⟨he, h1⟩ => ⟨he, _, held_restart hh hP.cap s1 s2, h1⟩
  by_cases e8 : d = 8
  · subst e8
    exact (do_read _ base b r M nm to aB l.length cB n p.cap p.aF p.zs.length p.cF p.cr p.dn p.aK p.ks.length p.cK w h hl hz).mono fun e w' ⟨he, h1⟩ => ⟨he, M, held_more hh, h1⟩
  · exact (do_other _ base b r M d (by omega) nm to aB l.length cB n p.cap p.aF p.zs.length p.cF p.cr p.dn p.aK p.ks.length p.cK w h).mono fun e w' ⟨he, h1⟩ => ⟨he, M, held_more hh, h1⟩

end Go.Proofs.Ytmpjjnjggiipjaa

namespace Go.Proofs.Ytmpjjnjggiipjaa
open Go.RowKit Go.Maps Go.Sort Go.WideMaps

/-- Behind the heap's growth past S nothing that is there is written; ahead of it what X names stays. -/
def Phase (X : Nat → Prop) (S : Nat) (a c : World) : Prop := Stays X a c ∧ (S < a.heap.size → Turn [] a c)
theorem Phase.refl (X : Nat → Prop) (S : Nat) (a : World) : Phase X S a a := ⟨Stays.refl X a, fun _ => Turn.refl _ _⟩
theorem Phase.trans {X : Nat → Prop} {S : Nat} {a b c : World} (h : Phase X S a b) (k : Phase X S b c) : Phase X S a c :=
  ⟨h.1.trans k.1, fun hs => (h.2 hs).trans (k.2 (Nat.lt_of_lt_of_le hs (h.2 hs).size))⟩

def planOf (p : PV) : Value := .agg #[.int .i64 p.cap, .slice p.aF p.zs.length p.cF, .int .i64 p.cr, .bool p.dn, .slice p.aK p.ks.length p.cK]

theorem ActAt.later {w w' : World} {a : Addr} {i : Nat} {v : AV} (h : ActAt w a i v) (t : Turn [] w w') : ActAt w' a i v := by
  have up : ∀ {p : Addr} {u : Value}, w.cell? p = some u → w'.cell? p = some u := fun {p u} hc => (World.cell?_of_block (t.block _ (World.block_lt_of_cell? w _ hc) (by simp))).trans hc
  exact ⟨up h.c0, up h.c1, up h.c2, up h.c3, up h.c4, up h.c5, up h.c6, up h.c7, up h.c8, up h.c9, h.nm, h.to, h.rB.turn t (by simp), h.lB, ⟨h.plan.cap, h.plan.rF.turn t (by simp), h.plan.rK.turn t (by simp), h.plan.lF, h.plan.lK⟩⟩

/-- Both sides made new. -/
theorem new_both (N base b r : Nat) (M : MD) (w1 w2 : World) (Fd Fr P : List Nat) (h1 : CD w1 base b M Fd) (hN : N ≤ base) (h2 : RD w2 r M Fr P) (hlow : ∀ q ∈ Fr, w1.heap.size ≤ q) (t : Turn [] w1 w2) (hP : ∀ q ∈ P, q < N) : Both (· < N) w2 base b r M M := by
  have hb := h1.1
  refine ⟨fun q hq => by have := t.size; omega, Fd, Fr, P, h1.new t, h2, fun q hq => ?_, fun q hq => ?_⟩
  · have := h1.lt q hq
    exact ⟨fun hm => by have := hlow q hm; omega, fun hm => by have := hP q hm; omega, by omega⟩
  · have := hlow q hq
    omega

theorem held_new (K : Nat) (p : PV) (hc : p.cap ≤ 9223372036854775807) (hz : p.zs.length ≤ 200) (hk : p.ks.length ≤ 200) : Held K (MD.new p.cap p.cr p.dn p.zs p.ks) 0 :=
  ⟨Int.le_refl _, Nat.zero_le _, Nat.zero_le _, hz, hk, hc⟩

set_option maxRecDepth 100000 in
set_option maxHeartbeats 8000000 in
theorem runs_walk (p : PV) (ao : Option Addr) (a : Addr) (len cap : Nat) (hao : ao = some a ∨ ao = none ∧ len = 0) (w : World) (hcap : len ≤ maxLen) (A : Nat → AV) (hA : ∀ i, i < len → ActAt w a i (A i)) (hP : PlanOk w p) :
    Calls Try.prog 3 #[planOf p, .slice ao len cap] w fun e w' => e = .returned (.bool true) ∧ Below w.heap.size w w' := by
  obtain ⟨pc, aF, cF, zs, cr, dn, aK, cK, ks⟩ := p
  unfold planOf
  simp only []
  obtain ⟨lF, hlF⟩ : ∃ lF, lF = zs.length := ⟨_, rfl⟩
  obtain ⟨lK, hlK⟩ : ∃ lK, lK = ks.length := ⟨_, rfl⟩
  have hlF1 : lF ≤ maxLen := by rw [hlF]; exact hP.lF
  have hlK1 : lK ≤ maxLen := by rw [hlK]; exact hP.lK
  have hPc : pc ≤ 9223372036854775807 := hP.cap
  have hPF : Reads w (.slice aF zs.length cF) (iv zs) := hP.rF
  have hPK : Reads w (.slice aK ks.length cK) (iv ks) := hP.rK
  rw [← hlF] at hPF ⊢
  rw [← hlK] at hPK ⊢
  have HP := Lib.hid (And.intro hPc (And.intro hPF (And.intro hPK (And.intro hlF hlK))))
  clear hP hPc hPF hPK hlF hlK
  have tb : Turn [] w (w.alloc (.cells #[.int .i64 pc, .slice aF lF cF, .int .i64 cr, .bool dn, .slice aK lK cK] 24)) := (Turn.refl [] w).alloc _
  have HT := Lib.hid tb
  have HC : Hid (∀ j v, (#[.int .i64 pc, .slice aF lF cF, .int .i64 cr, .bool dn, .slice aK lK cK] : Array Value)[j]? = some v → (w.alloc (.cells #[.int .i64 pc, .slice aF lF cF, .int .i64 cr, .bool dn, .slice aK lK cK] 24)).cell? ⟨w.heap.size, j, none⟩ = some v) := Lib.hid fun j v h => box_cell h
  have HH := Lib.hid (heavy_any ao a len cap hao (w.alloc (.cells #[.int .i64 pc, .slice aF lF cF, .int .i64 cr, .bool dn, .slice aK lK cK] 24)) hcap A (fun i hi => (hA i hi).later tb))
  have HAO := Lib.hid hao
  have HA := Lib.hid hA
  unfold maxLen at hcap hlF1 hlK1
  clear hA hao tb
  go_enter Try.func3, Try.ntmps3
  go_wp2_with fail
  generalize hW : w.alloc (.cells #[.int .i64 pc, .slice aF lF cF, .int .i64 cr, .bool dn, .slice aK lK cK] 24) = W at *
  clear hW
  have HB : Hid (Below w.heap.size w W) := Lib.hid (HT.out.below (Nat.le_refl _) (by simp))
  refine HH.out.mono ?_
  rintro e w0 ⟨hor, rfl⟩
  clear HH
  have k0 := HC.out 0 _ rfl
  have k1 := HC.out 1 _ rfl
  have k2 := HC.out 2 _ rfl
  have k3 := HC.out 3 _ rfl
  have k4 := HC.out 4 _ rfl
  rcases hor with rfl | ⟨rfl, hlen, hsm⟩
  · clear k0 k1 k2 k3 k4
    go_wp2_with (go_at_call 5; refine (awake1_any _).mono ?_; rintro e w' ⟨rfl, hb9⟩)
    go_ret
    exact ⟨rfl, HB.out.trans (hb9.mono HB.out.size)⟩
  by_cases x1 : 200 < lF
  · have y1 : (200 : Int) < (lF : Int) := by omega
    go_wp2_with (go_at_call 5; refine (awake1_any _).mono ?_; rintro e w' ⟨rfl, hb9⟩)
    go_ret
    exact ⟨rfl, HB.out.trans (hb9.mono HB.out.size)⟩
  have y1 : ¬ (200 : Int) < (lF : Int) := by omega
  by_cases x2 : 200 < lK
  · have y2 : (200 : Int) < (lK : Int) := by omega
    go_wp2_with (go_at_call 5; refine (awake1_any _).mono ?_; rintro e w' ⟨rfl, hb9⟩)
    go_ret
    exact ⟨rfl, HB.out.trans (hb9.mono HB.out.size)⟩
  have y2 : ¬ (200 : Int) < (lK : Int) := by omega
  have HSM := Lib.hid (And.intro hlen (And.intro hsm (And.intro x1 x2)))
  have hl120 : len ≤ 120 := hlen
  clear hsm hlen
  go_wp2_with fail
  have u0 : ∀ w', Grow W.drew w' → w'.cell? ⟨w.heap.size, 0, none⟩ = some _ := cell_up (w := W.drew) k0
  have u1 : ∀ w', Grow W.drew w' → w'.cell? ⟨w.heap.size, 1, none⟩ = some _ := cell_up (w := W.drew) k1
  have u2 : ∀ w', Grow W.drew w' → w'.cell? ⟨w.heap.size, 2, none⟩ = some _ := cell_up (w := W.drew) k2
  have u3 : ∀ w', Grow W.drew w' → w'.cell? ⟨w.heap.size, 3, none⟩ = some _ := cell_up (w := W.drew) k3
  have u4 : ∀ w', Grow W.drew w' → w'.cell? ⟨w.heap.size, 4, none⟩ = some _ := cell_up (w := W.drew) k4
  clear k0 k1 k2 k3 k4 y1 y2 x1 x2 hlF1 hlK1
  have HTd : Hid (Turn [] w W.drew) := Lib.hid (HT.out.trans ((Turn.refl [] W).drewN 1))
  refine wp_region_mv [(0, 1, true), (2, 1, true), (1, 1, false), (3, 1, false), (4, 2, true)] (by kernel_rfl) (by kernel_rfl) ?_
  simp only [mvAll, mvSeg, List.drop_succ_cons, List.drop_zero, List.cons_append, List.nil_append, Nat.reduceAdd]
  iterate 2
    refine wpLin_still ?_ (fun w' hG K hK => ?_) (fun K hK => ?_)
    rotate_left
    · have d0 := u0 w' hG
      have d1 := u1 w' hG
      have d2 := u2 w' hG
      have d3 := u3 w' hG
      have d4 := u4 w' hG
      clear hG
      unfold mvVal
      go_simp
      try exact hK
    go_simp
    refine hK _ ?_
    clear hK K
  clear u0 u1 u2 u3 u4
  have hzl : zs.length < 900000 := by have := HP.out.2.2.2.1; have := HSM.out.2.2.1; omega
  have hkl : ks.length < 900000 := by have := HP.out.2.2.2.2; have := HSM.out.2.2.2; omega
  have HNC := Lib.hid (new_cd pc cr dn (.slice aF lF cF) (.slice aK lK cK) zs ks W.drew (HP.out.2.1.turn HTd.out (by simp)) (HP.out.2.2.1.turn HTd.out (by simp)) hzl hkl)
  clear hzl hkl
  refine wpLin_call (fun K hK => ?_)
  unfold mvRun
  go_simp
  simp only [mvUpon]
  refine HNC.out.mono ?_
  rintro e w1 ⟨b, Fd, rfl, hcd, t1⟩
  refine ⟨_, rfl, ?_⟩
  unfold theDisk
  go_simp
  refine hK _ _ (turn_grow t1) ?_
  clear hK K HNC
  have HT1 := Lib.hid (HTd.out.trans t1)
  have HCD := Lib.hid hcd
  obtain ⟨P1, p1, q1⟩ := blocks_of (· < w.heap.size) (.slice aF lF cF) zs (fun hne => reads_in HP.out.2.1 (iv_ne hne))
  obtain ⟨P2, p2, q2⟩ := blocks_of (· < w.heap.size) (.slice aK lK cK) ks (fun hne => reads_in HP.out.2.2.1 (iv_ne hne))
  have hPX : ∀ q ∈ P1 ++ P2, q < w.heap.size := fun q hq => by
    rcases List.mem_append.1 hq with h | h
    · exact q1 q h
    · exact q2 q h
  have HNR := Lib.hid (ref_new pc cr dn (.slice aF lF cF) (.slice aK lK cK) zs ks w1 (HP.out.2.1.turn HT1.out (by simp)) (HP.out.2.2.1.turn HT1.out (by simp)) (P1 ++ P2) (fun hz a n c e => List.mem_append.2 (.inl (p1 hz a n c e))) (fun hz a n c e => List.mem_append.2 (.inr (p2 hz a n c e))) (fun q hq => Nat.lt_of_lt_of_le (hPX q hq) HT1.out.size))
  have HPX := Lib.hid hPX
  clear hPX p1 q1 p2 q2 hcd t1
  refine wpLin_call (fun K hK => ?_)
  unfold mvRun
  go_simp
  simp only [mvUpon]
  refine HNR.out.mono ?_
  rintro e w2 ⟨r, Fr, rfl, hrd, hlow, t2⟩
  refine ⟨_, rfl, ?_⟩
  unfold theRef
  go_simp
  refine hK _ _ (turn_grow t2) ?_
  clear hK K HNR
  obtain ⟨base, hbase⟩ : ∃ base, base = W.drew.heap.size := ⟨_, rfl⟩
  rw [← hbase] at HCD
  have HI : Hid (∃ M, Held 1048576 M 0 ∧ Both (· < w.heap.size) w2 base b r M M ∧ Stays (· < w.heap.size) w w2) := Lib.hid ⟨_, held_new 1048576 ⟨pc, aF, cF, zs, cr, dn, aK, cK, ks⟩ HP.out.1 (by have := HP.out.2.2.2.1; have := HSM.out.2.2.1; show zs.length ≤ 200; omega) (by have := HP.out.2.2.2.2; have := HSM.out.2.2.2; show ks.length ≤ 200; omega), new_both w.heap.size base b r _ w1 w2 Fd Fr _ HCD.out (by rw [hbase]; exact HTd.out.size) hrd hlow t2 HPX.out, Stays.of_turn (HT1.out.trans t2) fun q hq => ⟨hq, by simp⟩⟩
  clear hrd hlow t2 HPX HCD HT1 HTd HT HP HC HB hbase
  iterate 2
    refine wpLin_still ?_ (fun w' hG K hK => ?_) (fun K hK => ?_)
    rotate_left
    · unfold mvVal
      go_simp
      try exact hK
    go_simp
    refine hK _ ?_
    clear hK K
  refine wpLin_nil ?_
  go_wp2_with fail
  go_loopw [7] (fun i wr => ∃ k : Nat, k ≤ len ∧ i = .int .i64 k ∧ Hid (∃ M, Held 1048576 M k ∧ Both (· < w.heap.size) wr base b r M M ∧ Stays (· < w.heap.size) w wr))
    (fun i _ => len - (intOf i).toNat)
  case atStart => exact ⟨0, Nat.zero_le _, rfl, HI⟩
  case round =>
    obtain ⟨k, hk, rfl, hrel⟩ := hrel
    clear HI
    by_cases h1 : k < len
    · obtain rfl : ao = some a := by
        rcases HAO.out with h | ⟨_, h⟩
        · exact h
        · omega
      have h3 : (k : Int) < (len : Int) := by omega
      obtain ⟨M, hM, hB, hS⟩ := hrel.out
      have hx := HA.out k h1
      have hsm := HSM.out.2.1 k h1
      generalize A k = v at hx hsm
      have HDo := Lib.hid (do_any (K := 1048576) (by decide) w wr.drew base b r k M v (hB.new ((Turn.refl [] wr).drewN 1)) hM (by omega) hsm hx.lB hx.rB hx.plan (hS.trans (Stays.drew wr)))
      have HS := Lib.hid (hS.trans (Stays.drew wr))
      clear hM hB hS hsm hrel
      have up : ∀ {p : Addr} {u : Value}, w.cell? p = some u → ∀ w', Phase (· < w.heap.size) wr.drew.heap.size wr.drew w' → w'.cell? p = some u := fun {p u} hc w' hG => (HS.out.trans hG.1).cell (World.block_lt_of_cell? w _ hc) hc
      obtain ⟨d, nm, to, aB, cB, l, n, ⟨pc', aF', cF', zs', cr', dn', aK', cK', ks'⟩⟩ := v
      have c0 := hx.c0
      have c1 := hx.c1
      have c2 := hx.c2
      have c3 := hx.c3
      have c4 := hx.c4
      have c5 := hx.c5
      have c6 := hx.c6
      have c7 := hx.c7
      have c8 := hx.c8
      have c9 := hx.c9
      simp only [] at c0 c1 c2 c3 c4 c5 c6 c7 c8 c9
      rw [add_fld _ _ _ (by omega)] at c1 c2 c3 c4 c5 c6 c7 c8 c9
      replace c0 := up c0
      replace c1 := up c1
      replace c2 := up c2
      replace c3 := up c3
      replace c4 := up c4
      replace c5 := up c5
      replace c6 := up c6
      replace c7 := up c7
      replace c8 := up c8
      replace c9 := up c9
      obtain ⟨lB, hlB⟩ : ∃ x, x = l.length := ⟨_, rfl⟩
      obtain ⟨lF', hlF'⟩ : ∃ x, x = zs'.length := ⟨_, rfl⟩
      obtain ⟨lK', hlK'⟩ : ∃ x, x = ks'.length := ⟨_, rfl⟩
      unfold actOf actV theDisk theRef at HDo
      simp only [] at HDo
      rw [← hlB] at c3 HDo
      rw [← hlF'] at c6 HDo
      rw [← hlK'] at c9 HDo
      clear up hx hlB hlF' hlK'
      go_wp2_with fail
      refine wp_region_mvg (Phase (· < w.heap.size) wr.drew.heap.size) (Phase.refl _ _) (fun h k => h.trans k) [(0, 6, true), (6, 1, false), (7, 3, true), (11, 4, true), (10, 1, false), (15, 4, true), (20, 4, true), (19, 1, false), (24, 2, true)] (by kernel_rfl) (by kernel_rfl) ?_
      simp only [mvAll, mvSeg, List.drop_succ_cons, List.drop_zero, List.cons_append, List.nil_append, Nat.reduceAdd]
      iterate 6
        refine wpLing_still ?_ (fun w' hG K hK => ?_) (fun K hK => ?_)
        rotate_left
        · have d0 := c0 w' hG
          have d1 := c1 w' hG
          have d2 := c2 w' hG
          have d3 := c3 w' hG
          have d4 := c4 w' hG
          have d5 := c5 w' hG
          have d6 := c6 w' hG
          have d7 := c7 w' hG
          have d8 := c8 w' hG
          have d9 := c9 w' hG
          clear hG
          unfold mvVal
          go_simp
          try exact hK
        go_simp
        refine hK _ ?_
        clear hK K
      clear c0 c1 c2 c3 c4 c5 c6 c7 c8 c9
      refine wpLing_call (fun K hK => ?_)
      unfold mvRun
      go_simp
      simp only [mvUpon]
      refine HDo.out.mono ?_
      rintro e w3 ⟨rfl, M', hM', hB', hS', hlt'⟩
      refine ⟨_, rfl, ?_⟩
      go_simp
      refine hK _ _ ⟨hS', fun h => absurd h (Nat.lt_irrefl _)⟩ ?_
      clear hK K HDo
      obtain ⟨cn, hcn⟩ : ∃ cn, cn = M'.n := ⟨_, rfl⟩
      obtain ⟨dw, hdw⟩ : ∃ dw, dw = M'.dw := ⟨_, rfl⟩
      have HN : Hid (∃ M, Held 1048576 M (k + 1) ∧ Both (· < w.heap.size) w3 base b r M M ∧ Stays (· < w.heap.size) w w3) := Lib.hid ⟨M', hM', hB', HS.out.trans hS'⟩
      obtain ⟨_, Fd', Fr', G', g1, g2, _, _⟩ := hB'
      obtain ⟨_, _, _, k6, k7, _⟩ := g2.sees
      rw [← hcn] at k6
      rw [← hdw] at k7
      have v6 : ∀ w', Phase (· < w.heap.size) wr.drew.heap.size w3 w' → w'.cell? ⟨r, 6, none⟩ = some (.int .i64 cn) := fun w' hG => cell_up k6 w' (turn_grow (hG.2 hlt'))
      have v7 : ∀ w', Phase (· < w.heap.size) wr.drew.heap.size w3 w' → w'.cell? ⟨r, 7, none⟩ = some (.bool dw) := fun w' hG => cell_up k7 w' (turn_grow (hG.2 hlt'))
      have HCC := calls_cd base b M' Fd' w3 g1
      have HDW := down_cd base b M' Fd' w3 g1
      unfold theDisk at HCC HDW
      rw [← hcn] at HCC
      rw [← hdw] at HDW
      clear hM' hS' hlt' g1 g2 k6 k7 hcn hdw HS
      iterate 7
        refine wpLing_still ?_ (fun w' hG K hK => ?_) (fun K hK => ?_)
        rotate_left
        · have d7 := v7 w' hG
          clear hG
          unfold mvVal
          go_simp
          try exact hK
        go_simp
        refine hK _ ?_
        clear hK K
      refine wpLing_call (fun K hK => ?_)
      unfold mvRun
      go_simp
      simp only [mvUpon]
      refine HDW.mono ?_
      rintro e w4 ⟨rfl, rfl⟩
      refine ⟨_, rfl, ?_⟩
      go_simp
      refine hK _ _ (Phase.refl _ _ _) ?_
      clear hK K HDW
      iterate 8
        refine wpLing_still ?_ (fun w' hG K hK => ?_) (fun K hK => ?_)
        rotate_left
        · have d6 := v6 w' hG
          clear hG
          unfold mvVal
          go_simp
          try exact hK
        go_simp
        refine hK _ ?_
        clear hK K
      refine wpLing_call (fun K hK => ?_)
      unfold mvRun
      go_simp
      simp only [mvUpon]
      refine HCC.mono ?_
      rintro e w5 ⟨rfl, rfl⟩
      refine ⟨_, rfl, ?_⟩
      go_simp
      refine hK _ _ (Phase.refl _ _ _) ?_
      clear hK K HCC
      iterate 2
        refine wpLing_still ?_ (fun w' hG K hK => ?_) (fun K hK => ?_)
        rotate_left
        · unfold mvVal
          go_simp
          try exact hK
        go_simp
        refine hK _ ?_
        clear hK K
      refine wpLing_nil ?_
      clear v6 v7
      go_wp2_with fail
      go_roundw
      case rel => exact ⟨k + 1, by omega, by go_num, HN⟩
      case measure => simp [intOf]; omega
    · obtain rfl : k = len := by omega
      have h3 : ¬ (k : Int) < (k : Int) := by omega
      obtain ⟨M, hM, hB, hS⟩ := hrel.out
      have HSa := same_any base b r M wr hB (held_lim (K := 1048576) (by decide) hM hl120)
      unfold theDisk theRef at HSa
      have HST := Lib.hid hS
      clear hM hB hS hrel
      go_wp2_with fail
      refine HSa.mono ?_
      rintro e w3 ⟨rfl, t3⟩
      have B3 : Below w.heap.size w w3 := HST.out.below.trans (t3.below HST.out.1.size (by simp))
      clear t3 HSa
      go_wp2_with (go_at_call 5; refine (awake1_any _).mono ?_; rintro e w' ⟨rfl, hb9⟩)
      go_ret
      exact ⟨rfl, B3.trans (hb9.mono B3.size)⟩

end Go.Proofs.Ytmpjjnjggiipjaa
