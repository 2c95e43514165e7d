/- SnapOther, walked. Numbers and types by name. -/
import Derived.Test.YthglbmnhlnpmkaaGreatSnq
import Derived.Test.YthglbmnhlnpmkaaGreatSnk
import Derived.Test.YthglbmnhlnpmkaaGreatDnu
/- Save and Load beside blocks that stay: the code's disk alone, and both disks. Numbers and types by name. -/
namespace Go.Proofs.YthglbmnhlnpmkaaGreat
open Go.RowKit Go.Lib

theorem Prr.stays {X : Nat → Prop} {w w' : World} {v : Value} {n : Nat} {L : List Prm} (h : Prr w v n L) (hs : Stays X w w') (hX : ∀ a, v.ownBlock = some a → a < w.heap.size → X a) : Prr w' v n L := by
  obtain ⟨h1, h2, ⟨ao, c, e, g0, g1, g2, g3⟩, h4⟩ := h
  refine ⟨h1, h2, ⟨ao, c, e, g0, g1, g2, fun a ha j u hj => ?_⟩, h4⟩
  have hc := g3 a ha j u hj
  have hlt := World.block_lt_of_cell? w _ hc
  rw [add_block] at hlt
  refine hs.cell ?_ hc
  rw [add_block]
  exact hX _ (by rw [e, ha]; rfl) hlt

theorem sol_new (cap cr : Int) (dn : Bool) (fl kp : Value) (zs ks : List Int) (w : World) (hf : Reads w fl (iv zs)) (hk : Reads w kp (iv ks)) (hz : zs.length < 900000) (hz2 : ks.length < 900000) :
    Calls Tryz.prog 8 #[.agg #[.int .i64 cap, fl, .int .i64 cr, .bool dn, kp]] w fun e w' => ∃ b, e = .returned (theDisk b) ∧ SolD (· < w.heap.size) w' w.heap.size b (MD.new cap cr dn zs ks) ∧ Turn [] w w' := by
  refine (new_cd cap cr dn fl kp zs ks w hf hk hz hz2).mono ?_
  rintro e w' ⟨b, F, rfl, h1, t⟩
  exact ⟨b, rfl, ⟨fun k hk => Nat.lt_of_lt_of_le hk t.size, F, h1, fun k hk hx => by have := (h1.lt k hk).1; omega⟩, t⟩
theorem sol_op {P : Program} {f : Nat} {args : Array Value} {X : Nat → Prop} {w : World} {base b : Nat} {M : MD} {op : Opn} (h : SolD X w base b M)
    (hc : ∀ F, CD w base b M F → (∀ q ∈ F, ¬ X q) → Calls P f args w (Left (Acted w base b M F op))) :
    Calls P f args w fun e w' => e = .returned (.int .i64 (M.act op).1) ∧ SolD X w' base b (M.act op).2 ∧ Stays X w w' := by
  obtain ⟨h1, F, h2, h3⟩ := h
  refine (hc F h2 h3).mono ?_
  rintro e w' ⟨k, rfl, rfl, hn⟩
  exact ⟨rfl, SolD.next h1 h3 hn⟩
theorem sol_save {X : Nat → Prop} {w : World} {base b : Nat} {M : MD} (h : SolD X w base b M) {v : Value} {n : Nat} {L : List Prm} (hr : Prr w v n L) (hb : bulkP L ≤ 3000) {K J j : Nat} (hw : Well K M j) (hj : j + 5 ≤ J) (hR : Room K J) (hK : (bytesT L).length ≤ K) :
    Calls Tryz.prog 14 #[theDisk b, v] w fun e w' => e = .returned (.int .i64 (saveT M L).1) ∧ SolD X w' base b (saveT M L).2 ∧ Stays X w w' := by
  obtain ⟨h1, F, h2, h3⟩ := h
  refine (save_cd base b M F v n L w h2 hr hb hw hj hR hK).mono ?_
  rintro e w' ⟨k, rfl, rfl, hn⟩
  exact ⟨rfl, SolD.next h1 h3 hn⟩
/-- What is loaded may be among what stays. -/
theorem sol_load {X : Nat → Prop} {w : World} {base b : Nat} {M : MD} (h : SolD X w base b M) (hl : LimF M.fs) (hlen : (loadP M).1.length ≤ 1000000) :
    Calls Tryz.prog 16 #[theDisk b] w fun e w' => ∃ ao q c, e = .returned (.tuple #[.slice ao q c, .int .i64 (loadE M)]) ∧ Prr w' (.slice ao q c) q (loadL M) ∧ Turn [] w w' ∧ SolD (fun k => X k ∨ w.heap.size ≤ k ∧ k < w'.heap.size) w' base b M ∧ ∀ a, (Value.slice ao q c).ownBlock = some a → w.heap.size ≤ a := by
  obtain ⟨h1, F, h2, h3⟩ := h
  refine (load_cd base b M F w h2 hl hlen).mono ?_
  rintro e w' ⟨ao, q, c, rfl, hp, t, hf⟩
  exact ⟨ao, q, c, rfl, hp, t, SolD.more ⟨h1, F, h2, h3⟩ t (fun k hk => hk), hf⟩

theorem duo_save_code {X : Nat → Prop} {w : World} {base b r : Nat} {M M2 : MD} (h : Both X w base b r M M2) {v : Value} {n : Nat} {L : List Prm} (hr : Prr w v n L) (hb : bulkP L ≤ 3000) {K J j : Nat} (hw : Well K M j) (hj : j + 5 ≤ J) (hR : Room K J) (hK : (bytesT L).length ≤ K) :
    Calls Tryz.prog 14 #[theDisk b, v] w fun e w' => e = .returned (.int .i64 (saveT M L).1) ∧ Both X w' base b r (saveT M L).2 M2 ∧ Stays X w w' := by
  obtain ⟨h0, Fd, Fr, G, h1, h2, h3, h4⟩ := h
  refine (save_cd base b M Fd v n L w h1 hr hb hw hj hR hK).mono ?_
  rintro e w' ⟨k, rfl, rfl, hn⟩
  exact ⟨rfl, Both.code h0 h2 h3 h4 hn⟩
theorem duo_save_ref {X : Nat → Prop} {w : World} {base b r : Nat} {M1 M : MD} (h : Both X w base b r M1 M) {v : Value} {n : Nat} {L : List Prm} (hr : Prr w v n L) (hb : bulkP L ≤ 3000) {K J j : Nat} (hw : Well K M j) (hj : j + 5 ≤ J) (hR : Room K J) (hK : (bytesT L).length ≤ K) :
    Calls Tryz.prog 15 #[theRef r, v] w fun e w' => e = .returned (.int .i64 (saveT M L).1) ∧ Both X w' base b r M1 (saveT M L).2 ∧ Stays X w w' := by
  obtain ⟨h0, Fd, Fr, G, h1, h2, h3, h4⟩ := h
  refine (ref_save r M Fr G v n L w h2 hr hb hw hj hR hK).mono ?_
  rintro e w' ⟨k, rfl, rfl, hn⟩
  exact ⟨rfl, Both.refd h0 h1 h2 h3 h4 (by simp) hn⟩
theorem duo_load_code {X : Nat → Prop} {w : World} {base b r : Nat} {M M2 : MD} (h : Both X w base b r M M2) (hl : LimF M.fs) (hlen : (loadP M).1.length ≤ 1000000) :
    Calls Tryz.prog 16 #[theDisk b] w fun e w' => ∃ ao q c, e = .returned (.tuple #[.slice ao q c, .int .i64 (loadE M)]) ∧ Prr w' (.slice ao q c) q (loadL M) ∧ Turn [] w w' := by
  obtain ⟨h0, Fd, Fr, G, h1, h2, h3, h4⟩ := h
  refine (load_cd base b M Fd w h1 hl hlen).mono ?_
  rintro e w' ⟨ao, q, c, rfl, hp, t, _⟩
  exact ⟨ao, q, c, rfl, hp, t⟩
theorem duo_load_ref {X : Nat → Prop} {w : World} {base b r : Nat} {M1 M : MD} (h : Both X w base b r M1 M) (hl : LimF M.fs) (hlen : (loadP M).1.length ≤ 1000000) :
    Calls Tryz.prog 17 #[theRef r] w fun e w' => ∃ ao q c, e = .returned (.tuple #[.slice ao q c, .int .i64 (loadE M)]) ∧ Prr w' (.slice ao q c) q (loadL M) ∧ Turn [] w w' := by
  obtain ⟨h0, Fd, Fr, G, h1, h2, h3, h4⟩ := h
  refine (ref_load r M Fr G w h2 hl hlen).mono ?_
  rintro e w' ⟨ao, q, c, rfl, hp, t, _⟩
  exact ⟨ao, q, c, rfl, hp, t⟩

end Go.Proofs.YthglbmnhlnpmkaaGreat

/- The snapshots' example, walked. Numbers and types by name. -/
namespace Go.Proofs.YthglbmnhlnpmkaaGreat
open Go.RowKit Go.Lib
set_option maxRecDepth 100000

def oneP : List Prm := [⟨⟨#[97]⟩, ⟨#[49]⟩⟩]
theorem oneP_rise : Rise oneP := List.pairwise_singleton _ _
theorem oneP_bulk : bulkP oneP = 3 := rfl
theorem oneP_length : (bytesT oneP).length = 22 := by
  unfold bytesT
  rw [if_pos oneP_rise, frm_length]
  have h1 := enc_length (flatP oneP)
  have h2 : (flatP oneP).length = 2 := rfl
  have h3 : bulk (flatP oneP) = 4 := rfl
  omega
/-- What the example does. -/
theorem awake_plain (M0 M1 : MD) (k : Int) (e0 : M0 = MD.new 1000 0 false [] []) (e1 : saveT M0 oneP = (k, M1)) : loadL M0 = [] ∧ loadE M0 = 0 ∧ k = 0 ∧ loadL M1 = oneP ∧ loadE M1 = 0 := by
  rw [save_right oneP_rise] at e1
  have s1 := save_fits (M := M0) (by rw [e0]; exact still_new _) (pre := []) (.inl rfl) (by rw [e0]; rfl) (bytesT oneP) (by rw [e0, oneP_length]; show ¬ (1000 : Int) < _; simp [tot])
  rw [s1] at e1
  obtain ⟨rfl, rfl⟩ := Prod.mk.inj e1
  have l1 := load_saved (M := { M0 with n := M0.n + 1 + 1 + 1 + 1, fs := [(snapK, bytesT oneP, (bytesT oneP).length)] }) oneP_rise (by rw [oneP_bulk]; omega) (by rw [e0]; rfl) (find_one _ _ _ _)
  exact ⟨by rw [e0]; rfl, by rw [e0]; rfl, rfl, l1.1, l1.2⟩

theorem lim_small {M : MD} {K J j : Nat} (hR : Room K J) (hw : Well K M j) (hj : j ≤ J) : LimF M.fs := (well_lim hR hw hj).fs
theorem room8 : Room 24100 125 := ⟨by decide, by decide⟩

theorem load_fits {M : MD} {j : Nat} (hw : Well 24100 M j) (hj : j ≤ 41) : (loadP M).1.length ≤ 1000000 :=
  loadP_length (Nat.le_trans hw.held.tot (Nat.le_trans (Nat.mul_le_mul_right 24100 hj) (by decide)))

set_option maxHeartbeats 4000000 in
theorem awake_snap (w : World) : Calls Tryz.prog 7 #[] w fun e w' => e = .returned (.bool true) ∧ Below w.heap.size w w' := by
  obtain ⟨M0, e0⟩ : ∃ M, M = MD.new 1000 0 false [] [] := ⟨_, rfl⟩
  obtain ⟨k, M1, e1⟩ : ∃ k M, saveT M0 oneP = (k, M) := ⟨_, _, rfl⟩
  obtain ⟨p1, p2, rfl, p4, p5⟩ := awake_plain M0 M1 k e0 e1
  have hw0 : Well 24100 M0 0 := by rw [e0]; exact well_new _ _ _ _ _ _ (by decide) (by simp) (by simp)
  have hw1 : Well 24100 M1 5 := by have := well_saveT hw0 (L := oneP) (by rw [oneP_length]; omega); rw [e1] at this; exact this
  have N0 := sol_new 1000 0 false (.slice none 0 0) (.slice none 0 0) [] [] w (Reads.nil w) (Reads.nil w) (by simp) (by simp)
  rw [← e0] at N0
  have HP := Lib.hid (And.intro p1 (And.intro p2 (And.intro p4 (And.intro p5 (And.intro hw0 (And.intro hw1 e1))))))
  clear p1 p2 p4 p5 e0 e1 hw0 hw1
  go_enter Tryz.func7, Tryz.ntmps7
  go_wp2_with fail
  refine N0.mono ?_
  rintro e w1 ⟨b, rfl, hs, t⟩
  have H1 := Lib.hid (And.intro hs t)
  have L1 := sol_load hs (lim_small room8 HP.out.2.2.2.2.1 (by omega)) (load_fits HP.out.2.2.2.2.1 (by omega))
  rw [HP.out.1, HP.out.2.1] at L1
  unfold theDisk at L1
  unfold theDisk
  clear hs t N0
  go_wp2_with fail
  refine L1.mono ?_
  rintro e w2 ⟨a1, q1, c1, rfl, hp1, t1, _, _⟩
  have hq1 : q1 = 0 := hp1.1
  subst hq1
  have hs2 : SolD (· < w.heap.size) w2 w.heap.size b M0 := H1.out.1.new t1
  have H2 := Lib.hid (And.intro hs2 (H1.out.2.trans t1))
  clear hp1 t1 hs2 L1 H1
  obtain ⟨X, hX⟩ : ∃ X, X = w2.alloc (.cells (pv ⟨⟨#[97]⟩, ⟨#[49]⟩⟩).toArray 56) := ⟨_, rfl⟩
  have hPr : Prr X (.slice (some ⟨w2.heap.size, 0, none⟩) 1 1) 1 oneP := by rw [hX]; exact Prr.lit w2 ⟨⟨#[97]⟩, ⟨#[49]⟩⟩ ⟨by unfold maxLen; decide, by unfold maxLen; decide⟩
  have tX : Turn [] w2 X := by rw [hX]; exact (Turn.refl [] w2).alloc _
  have S1 := sol_save (H2.out.1.new tX) hPr (by rw [oneP_bulk]; omega) HP.out.2.2.2.2.1 (J := 125) (by omega) room8 (by rw [oneP_length]; omega)
  rw [HP.out.2.2.2.2.2.2] at S1
  have HT := Lib.hid tX
  unfold theDisk at S1
  have eX : w2.alloc (Obj.cells #[Value.string { data := #[97] }, Value.string { data := #[49] }] 56) = X := hX.symm
  clear hPr tX hX
  go_wp2_with fail
  refine S1.mono ?_
  rintro e w3 ⟨rfl, hs3, hst⟩
  have H3 := Lib.hid (And.intro hs3 hst)
  have L2 := sol_load hs3 (lim_small room8 HP.out.2.2.2.2.2.1 (by omega)) (load_fits HP.out.2.2.2.2.2.1 (by omega))
  rw [HP.out.2.2.1, HP.out.2.2.2.1] at L2
  unfold theDisk at L2
  clear hs3 hst S1 eX
  go_wp2_with fail
  refine L2.mono ?_
  rintro e w4 ⟨a2, q2, c2, rfl, hp2, t2, _, _⟩
  have hq2 : q2 = 1 := hp2.1
  subst hq2
  have HB : Hid (Below w.heap.size w w4) := Lib.hid (((H2.out.2.trans HT.out).below (Nat.le_refl _) (by simp)).trans (H3.out.2.below.trans (t2.below (Nat.le_trans (H2.out.2.trans HT.out).size H3.out.2.1.size) (by simp))))
  clear hp2 t2 L2
  go_wp2_with (go_at_call 13; refine (num_eq _ _).mono ?_; rintro e w' ⟨rfl, rfl⟩)
  go_ret
  exact ⟨rfl, HB.out⟩

end Go.Proofs.YthglbmnhlnpmkaaGreat

namespace Go.Proofs.YthglbmnhlnpmkaaGreat
open Go.RowKit Go.Lib
set_option maxRecDepth 100000

theorem grow_turn8 {w w' : World} (h : Grow w w') : Turn [] w w' := turn_below h
theorem turn_grow8 {w w' : World} (t : Turn [] w w') : Grow w w' := t.below (Nat.le_refl _) (by simp)

set_option maxHeartbeats 8000000 in
theorem other_snap (v1 : Value) (x : List UInt8) (v2 : Value) (n2 : Nat) (L : List Prm) (w : World) (h1 : Reads w v1 (bv x)) (hx : x.length ≤ maxLen) (h2 : Prr w v2 n2 L) :
    Calls Tryz.prog 6 #[v1, v2] w fun e w' => e = .returned (.bool true) ∧ Below w.heap.size w w' := by
  obtain ⟨nx, hnx⟩ : ∃ nx, nx = x.length := ⟨_, rfl⟩
  obtain ⟨a1, c1, rfl⟩ : ∃ ao c, v1 = .slice ao nx c := by obtain ⟨ao, c, rfl, _⟩ := h1; exact ⟨ao, c, by rw [bv_length, hnx]⟩
  obtain ⟨a2, c2, rfl⟩ := h2.shape
  rw [← hnx] at hx
  have hx9 : nx ≤ 9223372036854775807 := by unfold maxLen at hx; omega
  have G := great_pairs _ n2 L w h2
  have H1 := Lib.hid (And.intro h1 (And.intro h2 hnx))
  clear h1 h2 hnx hx
  go_enter Tryz.func6, Tryz.ntmps6
  by_cases x1 : 3000 < nx
  · have y1 : (3000 : Int) < (nx : Int) := by omega
    go_wp2_with (go_at_call 7; refine (awake_snap _).mono ?_; rintro e w' ⟨rfl, hb9⟩)
    go_ret
    exact ⟨rfl, hb9⟩
  have y1 : ¬ (3000 : Int) < (nx : Int) := by omega
  go_wp2_with fail
  refine G.mono ?_
  rintro e w1 ⟨g, q, rfl, hw1, hb⟩
  have B1 : Hid (Grow w w1) := Lib.hid (show Grow w w1 by rw [hw1]; exact below_drewN (Below.refl _ w) q)
  clear G hw1
  cases g with
  | true =>
    clear hb
    go_wp2_with (go_at_call 7; refine (awake_snap _).mono ?_; rintro e w' ⟨rfl, hb9⟩)
    go_ret
    exact ⟨rfl, B1.out.trans hb9⟩
  | false =>
  have hbL := hb rfl
  clear hb
  obtain ⟨M0, e0⟩ : ∃ M, M = MD.new 100000 0 false [] [] := ⟨_, rfl⟩
  obtain ⟨k1, M1, e1⟩ : ∃ k M, M0.act (opCreate snapK) = (k, M) := ⟨_, _, rfl⟩
  obtain ⟨k2, M2, e2⟩ : ∃ k M, M1.act (opAppend snapK x) = (k, M) := ⟨_, _, rfl⟩
  have hxl : x.length ≤ 3000 := by have := H1.out.2.2; omega
  obtain ⟨p1, p2, p3⟩ := other_plain x hxl L hbL M0 M1 M2 M2 k1 k2 e0 e1 e2
  have hw0 : Well 24100 M0 0 := by rw [e0]; exact well_new _ _ _ _ _ _ (by decide) (by simp) (by simp)
  have hw1 : Well 24100 M1 1 := by have := well_create hw0 snapK; rw [e1] at this; exact this
  have hw2 : Well 24100 M2 2 := by have := well_append hw1 snapK x (by omega); rw [e2] at this; exact this
  obtain ⟨k3, M3, e3⟩ : ∃ k M, saveT M2 L = (k, M) := ⟨_, _, rfl⟩
  have p3' : k3 = errT L := by rw [e3] at p3; exact p3
  have N0 := sol_new 100000 0 false (.slice none 0 0) (.slice none 0 0) [] [] w1 (Reads.nil w1) (Reads.nil w1) (by simp) (by simp)
  rw [← e0] at N0
  have HP := Lib.hid (And.intro e1 (And.intro e2 (And.intro e3 (And.intro p3' (And.intro hxl hbL)))))
  have HPL := Lib.hid (And.intro p1 p2)
  have HW := Lib.hid (And.intro hw0 (And.intro hw1 hw2))
  clear p1 p2 p3 p3' e0 e1 e2 e3 hw0 hw1 hw2 hxl hbL
  go_wp2_with fail
  refine N0.mono ?_
  rintro e w2 ⟨b, rfl, hs, t⟩
  have HS2 := Lib.hid (And.intro hs (turn_grow8 t))
  have A1 := sol_op hs (fun F hF _ => create_cd w1.heap.size b M0 F snapS w2 hF (well_lim room8 HW.out.1 (by omega)) (by decide))
  rw [snapS_list, HP.out.1] at A1
  unfold theDisk snapS at A1
  unfold theDisk
  clear hs t N0
  go_wp2_with fail
  refine A1.mono ?_
  rintro e w3 ⟨rfl, hs, hst⟩
  have hg3 : Grow w1 w3 := Below.trans HS2.out.2 hst.below
  have HS3 := Lib.hid (And.intro hs hg3)
  have r3 : Reads w1 (.slice a1 nx c1) (bv x) := H1.out.1.later B1.out
  have A2 := sol_op hs (fun F hF hX => append_cd w1.heap.size b M1 F snapS (.slice a1 nx c1) x w3 hF (well_lim room8 HW.out.2.1 (by omega)) (by decide) (r3.later hg3) (by have := HP.out.2.2.2.2.1; omega) (fun hne a n c e hm => hX _ hm (r3.lt (fun e => hne (List.map_eq_nil_iff.1 e)) a n c e)))
  rw [snapS_list, HP.out.2.1] at A2
  unfold theDisk snapS at A2
  have HR1 := Lib.hid r3
  clear hs hst A1 hg3 r3
  go_wp2_with fail
  refine A2.mono ?_
  rintro e w4 ⟨rfl, hs, hst⟩
  have hg4 : Grow w1 w4 := Below.trans HS3.out.2 hst.below
  have HS4 := Lib.hid (And.intro hs hg4)
  have L1 := sol_load hs (lim_small room8 HW.out.2.2 (by omega)) (load_fits HW.out.2.2 (by omega))
  rw [HPL.out.1, HPL.out.2] at L1
  unfold theDisk at L1
  clear hs hst A2 hg4
  go_wp2_with fail
  refine L1.mono ?_
  rintro e w5 ⟨am, qm, cm, rfl, hpm, t5, _, hfm⟩
  have HM := Lib.hid (And.intro hpm (And.intro t5 hfm))
  have F1 := ref_from (.slice a1 nx c1) nx x w5 (HR1.out.later (HS4.out.2.trans (turn_grow8 t5))) H1.out.2.2 (by omega)
  clear hpm t5 hfm L1
  obtain ⟨ef, hef⟩ : ∃ ef, ef = errF x := ⟨_, rfl⟩
  rw [← hef]
  go_wp2_with fail
  refine F1.mono ?_
  rintro e w6 hF
  obtain ⟨an, qn, cn, rfl, hpn, hb6, hfn⟩ := hF.fresh
  rw [← hef]
  have t6 : Turn [] w4 w6 := HM.out.2.1.trans (turn_below hb6)
  have HNN := Lib.hid (And.intro hpn (And.intro hb6 hfn))
  have hs6 : SolD (fun k => k < w1.heap.size ∨ w4.heap.size ≤ k ∧ k < w6.heap.size) w6 w1.heap.size b M2 := HS4.out.1.more t6 fun k hk => hk
  have hg6 : Grow w1 w6 := HS4.out.2.trans (turn_grow8 t6)
  have S1 := sol_save hs6 ((H1.out.2.1.later B1.out).later hg6) HP.out.2.2.2.2.2 HW.out.2.2 (J := 125) (by omega) room8 (bytesT_length HP.out.2.2.2.2.2)
  rw [HP.out.2.2.1] at S1
  unfold theDisk at S1
  have HG6 := Lib.hid (And.intro t6 hg6)
  clear hpn hb6 hfn hF F1 t6 hs6 hg6
  go_wp2_with fail
  refine S1.mono ?_
  rintro e w7 ⟨rfl, hs, hst⟩
  have hm7 : Prr w7 (.slice am qm cm) qm (listF x) := (HM.out.1.later HNN.out.2.1).stays hst fun a ha hlt => .inr ⟨HM.out.2.2 a ha, hlt⟩
  have hn7 : Prr w7 (.slice an qn cn) qn (listF x) := HNN.out.1.stays hst fun a ha hlt => .inr ⟨Nat.le_trans HM.out.2.1.size (HNN.out.2.2 a ha), hlt⟩
  have hg7 : Grow w1 w7 := Below.trans HG6.out.2 (hst.less (fun q hq => .inl hq)).below
  have HM7 := Lib.hid (And.intro hm7 (And.intro hn7 hg7))
  have T1 := reftable_own _ n2 L w7 ((H1.out.2.1.later B1.out).later hg7) HP.out.2.2.2.2.2
  unfold ToldB at T1
  rw [HP.out.2.2.2.1]
  obtain ⟨et, het⟩ : ∃ et, et = errT L := ⟨_, rfl⟩
  rw [← het] at T1 ⊢
  clear hs hst hm7 hn7 hg7 S1 het
  go_wp2_with (go_at_call 16; refine (load_nil _).mono ?_; rintro e w' ⟨rfl, rfl⟩)
  refine T1.mono ?_
  rintro e w8 ⟨at_, mt, ct, rfl, _, hb8⟩
  have PT := same_p_true _ _ qm qn (listF x) w8 (HM7.out.1.later hb8) (HM7.out.2.1.later hb8)
  have HB8 := Lib.hid (show Grow w w8 from B1.out.trans (HM7.out.2.2.trans hb8))
  clear hb8 T1
  go_wp2_with fail
  refine PT.mono ?_
  rintro e w9 ⟨rfl, q9, hq9⟩
  have HB9 := Lib.hid (show Grow w w9 by rw [hq9]; exact below_drewN HB8.out q9)
  clear PT hq9
  go_wp2_with (first | (go_at_call 13; refine (num_eq _ _).mono ?_; rintro e w' ⟨rfl, rfl⟩) | (go_at_call 14; refine (save_nil _ _ _ _).mono ?_; rintro e w' ⟨rfl, rfl⟩) | (go_at_call 7; refine (awake_snap _).mono ?_; rintro e w' ⟨rfl, hb9⟩))
  go_ret
  exact ⟨rfl, HB9.out.trans hb9⟩

end Go.Proofs.YthglbmnhlnpmkaaGreat
