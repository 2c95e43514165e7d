/- StoreKeys, walked over what is asked of the code's store. Numbers and types by name. -/
import Derived.Test.YthcdkggkoanjpaaGreatDoorStg
import Derived.Test.YthcdkggkoanjpaaGreatDoorObz
/- How much a store on a calm disk brings, one op at a time; what is at a key. Plain facts. Numbers and types by name. -/
namespace Go.Proofs.YthcdkggkoanjpaaGreatDoor
open Go.RowKit Go.Lib
theorem act_tot {M : MD} {op : Opn} {c : Nat} (ho : Adds op c) (hr : Rising M.fs) : tot (M.act op).2.fs ≤ tot M.fs + c := by
  have h1 := (ho M.cap M.fs hr).1
  unfold MD.act
  split
  · exact Nat.le_add_right _ _
  · split
    · show tot (if M.dn = true then (op M.cap M.fs).2 else M.fs) ≤ _
      split
      · exact h1
      · exact Nat.le_add_right _ _
    · split
      · exact Nat.le_add_right _ _
      · exact h1
theorem run_tot : ∀ (ops : List (Opn × Nat)) (M : MD), Rising M.fs → (∀ p ∈ ops, Keeps p.1 ∧ Adds p.1 p.2) → tot (runOps (ops.map (·.1)) M).2.fs ≤ tot M.fs + (ops.map (·.2)).sum
  | [], M, _, _ => Nat.le_add_right _ _
  | p :: l, M, hr, h => by
    have h0 := h p (by simp)
    have h1 := act_tot h0.2 hr
    rw [List.map_cons, runOps_one, List.map_cons, List.sum_cons]
    split
    · have := run_tot l _ (act_rising h0.1 hr) fun q hq => h q (List.mem_cons_of_mem _ hq)
      omega
    · omega
theorem save_tot {M : MD} (hr : Rising M.fs) (x : List UInt8) : tot (saveP M x).2.fs ≤ tot M.fs + x.length := by
  have base : ∀ p ∈ [(opCreate tmpK, 0), (opAppend tmpK x, x.length), (opSync tmpK, 0), (opRename tmpK snapK, 0)], Keeps p.1 ∧ Adds p.1 p.2 := by
    intro p hp
    simp only [List.mem_cons, List.not_mem_nil, or_false] at hp
    rcases hp with rfl | rfl | rfl | rfl
    · exact ⟨keeps_create tmpK, adds_create 0 tmpK⟩
    · exact ⟨keeps_append tmpK x, adds_append _ tmpK x (Nat.le_refl _)⟩
    · exact ⟨keeps_sync tmpK, adds_sync 0 tmpK⟩
    · exact ⟨keeps_rename tmpK snapK, adds_rename 0 tmpK snapK⟩
  unfold saveP saveOps
  by_cases hn : M.fs.any (isName tmpK) = true
  · rw [if_pos hn]
    have := run_tot ((opRemove tmpK, 0) :: [(opCreate tmpK, 0), (opAppend tmpK x, x.length), (opSync tmpK, 0), (opRename tmpK snapK, 0)]) M hr fun p hp => by
      rcases List.mem_cons.1 hp with rfl | hp
      · exact ⟨keeps_remove tmpK, adds_remove 0 tmpK⟩
      · exact base p hp
    simpa using this
  · rw [if_neg hn]
    have := run_tot _ M hr base
    simpa using this
theorem check_tot {M : MD} (hr : Rising M.fs) (n : Nat) (s : Bool) {L : List Prm} (hL : Rise L) : tot (checkS M n s L).M.fs ≤ tot M.fs + (bytesT L).length := by
  unfold checkS
  split
  · exact Nat.le_add_right _ _
  · rw [save_right hL]
    have h1 := save_tot hr (bytesT L)
    obtain ⟨_, _, g3⟩ := save_keeps (x := bytesT L) hr
    split
    · exact h1
    · unfold resetP
      split
      · exact h1
      · have := act_tot (adds_cut 0 logK 0) g3
        show tot ((saveP M (bytesT L)).2.act (opCut logK 0)).2.fs ≤ _
        omega
theorem commit_tot {M : MD} (hr : Rising M.fs) (n : Nat) (s : Bool) (X : List Opm) : tot (commitP M n s X).M.fs ≤ tot M.fs + (frms (recs X)).length := by
  have cut : ∀ (N : MD) (e : Int), Rising N.fs → tot (commitC N e n).M.fs ≤ tot N.fs := fun N e hN => by
    unfold commitC
    split
    · exact Nat.le_refl _
    · exact act_tot (adds_cut 0 logK n) hN
  unfold commitP
  split
  · exact Nat.le_add_right _ _
  · split
    · exact Nat.le_add_right _ _
    · have h1 := act_tot (adds_append _ logK (frms (recs X)) (Nat.le_refl _)) hr
      have h2 := act_rising (keeps_append logK (frms (recs X))) hr
      have h3 := act_tot (adds_sync 0 logK) h2
      have h4 := act_rising (keeps_sync logK) h2
      unfold commitA
      split
      · split
        · show tot ((M.act (opAppend logK (frms (recs X)))).2.act (opSync logK)).2.fs ≤ _
          omega
        · have := cut _ ((M.act (opAppend logK (frms (recs X)))).2.act (opSync logK)).1 h4
          omega
      · have := cut _ (M.act (opAppend logK (frms (recs X)))).1 h2
        omega
theorem commit_rising {M : MD} (hr : Rising M.fs) (n : Nat) (s : Bool) (X : List Opm) : Rising (commitP M n s X).M.fs := by
  have cut : ∀ (N : MD) (e : Int), Rising N.fs → Rising (commitC N e n).M.fs := fun N e hN => by
    unfold commitC
    split
    · exact hN
    · exact act_rising (keeps_cut logK n) hN
  unfold commitP
  split
  · exact hr
  · split
    · exact hr
    · have h2 := act_rising (keeps_append logK (frms (recs X))) hr
      have h4 := act_rising (keeps_sync logK) h2
      unfold commitA
      split
      · split
        · exact h4
        · exact cut _ _ h4
      · exact cut _ _ h2
theorem commitS_tot {M : MD} (hr : Rising M.fs) (most : Int) (n : Nat) (s : Bool) (L : List Prm) (X : List Opm) : tot (commitS most M n s L X).M.fs ≤ tot M.fs + (frms (recs X)).length + (bytesT (applyP L X)).length := by
  have h1 := commit_tot hr n s X
  have h2 := commit_rising hr n s X
  unfold commitS
  split
  · show tot (commitP M n s X).M.fs ≤ _
    omega
  · split
    · have := check_tot h2 (commitP M n s X).n (commitP M n s X).s (rise_apply L X)
      show tot (checkS _ _ _ _).M.fs ≤ _
      omega
    · show tot (commitP M n s X).M.fs ≤ _
      omega
structure Kys (l : List Opm) (k : Nat) (M : MD) (n : Nat) (L S : List Prm) (B : List (List Opm)) (O : List Opm) : Prop where
  ps : PS (k + 1) M n false L S B O []
  still : Still8 M
  cap : M.cap = 1000000
  bulk : bulkP L ≤ bulkO (l.take k)
  len : L.length ≤ k
  tot : tot M.fs ≤ 12000 * k
  look : ∀ key, look L key = lastO (l.take k) key none
theorem kys_step {l : List Opm} {k : Nat} {M : MD} {n : Nat} {L S : List Prm} {B : List (List Opm)} {O : List Opm} (h : Kys l k M n L S B O) (hb : bulkO l ≤ 5000) (hok : okOps l = true) (hk : k < 60) {o : Opm} (ho : l[k]? = some o) (most : Int) :
    (commitS most M n false L [o]).e = 0 ∧ (commitS most M n false L [o]).s = false ∧ ∃ S' B' O', Kys l (k + 1) (commitS most M n false L [o]).M (commitS most M n false L [o]).n (commitS most M n false L [o]).L S' B' O' := by
  have hbk : bulkO (l.take (k + 1)) ≤ bulkO l := by
    conv => rhs; rw [← List.take_append_drop (k + 1) l, bulkO_append]
    exact Nat.le_add_right _ _
  have hnx : bulkO (l.take (k + 1)) = bulkO (l.take k) + bulkO [o] := by rw [take_next ho, bulkO_append]
  have hm : mild [o] := ⟨by omega, by show 1 ≤ 60; decide⟩
  have hok1 : okOps [o] = true := by
    have hmem : o ∈ l := List.mem_of_getElem? ho
    unfold okOps at hok ⊢
    rw [Bool.and_eq_true, List.all_eq_true] at hok
    rw [List.all_cons, List.all_nil, hok.1 o hmem]
    rfl
  obtain ⟨⟨S', B', O', g1⟩, g2, g3, g4, g5, _, _, g8⟩ := calm_step h.ps h.still (by omega) hm most
  have hx := recs_size hm.1
  rw [List.length_singleton] at hx
  have ht := commitS_tot h.ps.well.up most n false L [o]
  have hbl := bulkP_apply L [o]
  have hln := apply_length L [o]
  rw [List.length_singleton] at hln
  have hbt : (bytesT (applyP L [o])).length ≤ 6000 := by
    unfold bytesT
    split
    · rw [frm_length, enc_flatP]
      have := h.bulk
      have := h.len
      omega
    · exact Nat.zero_le _
  have h1 := h.tot
  have h2 := h.bulk
  have h3 := h.len
  have he : (commitS most M n false L [o]).e = 0 := by
    rcases g8 hok1 with q | q
    · exact q.1
    · have := q.2
      rw [h.cap] at this
      omega
  have hL := (g5 he).1
  refine ⟨he, g2, S', B', O', g1, g3, g4.trans h.cap, by rw [hL]; omega, by rw [hL]; omega, by omega, fun key => ?_⟩
  have hls : applyP L [o] = stepP L o := by
    unfold applyP
    rw [base_rise h.ps.sk.rise]
    rfl
  rw [hL, hls, look_step, h.look key, lastO_next ho]
theorem key_new (l : List Opm) : (openS (MD.new 1000000 0 false [] [])).e = 0 ∧ (∃ S B O, Kys l 0 (openS (MD.new 1000000 0 false [] [])).M (openS (MD.new 1000000 0 false [] [])).n (openS (MD.new 1000000 0 false [] [])).L S B O) ∧ OFit 440000 2000 10 (MD.new 1000000 0 false [] []) := by
  have p0 : PD 0 (MD.new 1000000 0 false [] []) [] [] [] [] := pd_new _ _ _ _ _ (by decide) (by simp) (by simp)
  obtain ⟨c1, c2, c3, c4, c5⟩ := calm_new p0 Meas.nil (still_new 1000000)
  have hL : (openS (MD.new 1000000 0 false [] [])).L = [] := c4
  refine ⟨c1, ⟨[], [], [], c5, c2, c3, by rw [hL]; exact Nat.zero_le _, by rw [hL]; exact Nat.zero_le _, ?_, fun key => by rw [hL]; rfl⟩, p0.ofit (by decide) (by decide)⟩
  rw [tot_open0 1000000 (by decide)]
  exact Nat.zero_le _
end Go.Proofs.YthcdkggkoanjpaaGreatDoor

namespace Go.Proofs.YthcdkggkoanjpaaGreatDoor
open Go.RowKit Go.Lib
set_option maxRecDepth 100000
theorem Opr.one {w : World} {a : Addr} {n c k : Nat} {L : List Opm} {o : Opm} (h : Opr w (.slice (some a) n c) n L) (ho : L[k]? = some o) (hk : k < n) : Opr w (.slice (some (a.add (k * 3))) 1 (c - k)) 1 [o] := by
  obtain ⟨h1, h2, ⟨ao, c', e, g0, g1, g2, g3⟩, h4⟩ := h
  cases e
  refine ⟨rfl, by unfold maxLen; omega, ⟨_, _, rfl, rfl, by omega, (fun h => by cases h), fun b hb j u hj => ?_⟩, fun p hp => ?_⟩
  · cases hb
    have hj3 : j < 3 := by
      have := (List.getElem?_eq_some_iff.1 hj).1
      have e3 : (ovs [o]).length = 3 := rfl
      omega
    have hu : (ovs L)[k * 3 + j]? = some u := by
      rw [ovs_at ho j hj3]
      simpa [ovs] using hj
    have := g3 a rfl (k * 3 + j) u hu
    rw [Addr.add_add]
    exact this
  · rw [List.mem_singleton.1 hp]
    exact h4 o (List.mem_of_getElem? ho)
def KeyAt (C : SP) (w0 wr : World) (base b x : Nat) (most : Int) (l : List Opm) (k : Nat) : Prop := ∃ M n L S B O F, Kys l k M n L S B O ∧ Sess C w0 wr base b x M n false L most F
theorem KeyAt.grow {C : SP} {w0 w : World} {base b x : Nat} {most : Int} {l : List Opm} {k : Nat} (h : KeyAt C w0 w base b x most l k) : Grow w0 w := by
  obtain ⟨M, n, L, S, B, O, F, _, h⟩ := h
  exact h.2.1
theorem key_commit {C : SP} {I : SI} (K : StK C I) {w0 w : World} {base b x : Nat} {most : Int} {l : List Opm} {k : Nat} (h : KeyAt C w0 w base b x most l k) (ht : Tab w0) (hb : bulkO l ≤ 5000) (hok : okOps l = true) (hk : k < 60) {o : Opm} (ho : l[k]? = some o) {vo : Value} (hv : Opr w0 vo 1 [o]) :
    Calls Tryz.prog 23 #[theSt x, vo] w fun e w' => e = .returned (.int .i64 0) ∧ KeyAt C w0 w' base b x most l (k + 1) := by
  obtain ⟨M, n, L, S, B, O, F, hy, hs⟩ := h
  obtain ⟨p1, p2, S', B', O', p3⟩ := kys_step hy hb hok hk ho most
  have hbo : bulkO [o] ≤ 5000 := by
    have : bulkO (l.take (k + 1)) ≤ bulkO l := by
      conv => rhs; rw [← List.take_append_drop (k + 1) l, bulkO_append]
      exact Nat.le_add_right _ _
    rw [take_next ho, bulkO_append] at this
    omega
  refine (sess_commit K hs ht (hy.ps.sfit (by omega) ⟨hbo, by show 1 ≤ 60; decide⟩) hv (by decide)).mono ?_
  rintro e w' ⟨k4, rfl, hk4, F4, hs4, f4, t4⟩
  rw [hk4, p1]
  rw [p2] at hs4
  exact ⟨rfl, _, _, _, S', B', O', F4, p3, hs4⟩
theorem key_get {C : SP} {I : SI} (K : StK C I) {w0 w : World} {base b x : Nat} {most : Int} {l : List Opm} {k : Nat} (h : KeyAt C w0 w base b x most l k) (hk : k ≤ 60) (key : ByteArray) (hz : key.size ≤ 200) :
    Calls Tryz.prog 31 #[theSt x, .string key] w fun e w' => Grow w0 w' ∧ ((lastO (l.take k) key none = none ∧ e = .returned (.tuple #[.string ⟨#[]⟩, .bool false])) ∨ ∃ v, lastO (l.take k) key none = some v ∧ e = .returned (.tuple #[.string v, .bool true])) := by
  obtain ⟨M, n, L, S, B, O, F, hy, hs⟩ := h
  refine (K.get hs.1 (hy.ps.ml.slim (by omega)) key (by omega)).mono ?_
  rintro e w' ⟨rfl, t⟩
  refine ⟨hs.2.1.trans (tg9 t), ?_⟩
  rw [findP_look, hy.look key]
  cases lastO (l.take k) key none with
  | none => exact .inl ⟨rfl, rfl⟩
  | some v => exact .inr ⟨v, rfl, rfl⟩
set_option maxHeartbeats 8000000 in
theorem keys_store {C : SP} {I : SI} (K : StK C I) (v1 : Value) (n1 : Nat) (l : List Opm) (key : ByteArray) (w : World) (h1 : Opr w v1 n1 l) (ht : Tab w) :
    Calls Tryz.prog 7 #[v1, .string key] w fun e w' => e = .returned (.bool true) ∧ Below w.heap.size w w' := by
  obtain ⟨a1, c1, rfl⟩ := h1.shape
  have hn1 := h1.2.1
  unfold maxLen at hn1
  have hcap : n1 ≤ c1 := by
    obtain ⟨_, _, ⟨ao, c', e, g0, g1, g2, g3⟩, h4⟩ := h1
    cases e
    exact g1
  have H1 := Lib.hid h1
  have HT := Lib.hid ht
  have HK := Lib.hid K
  have GR := great_ops _ n1 l w h1
  have HCP := Lib.hid hcap
  clear h1 ht K hcap
  go_enter Tryz.func7, Tryz.ntmps7
  go_wp2_with fail
  refine GR.mono ?_
  rintro e w1 ⟨g, q, rfl, hw1, hb⟩
  have B1 : Hid (Grow w w1) := Lib.hid (show Grow w w1 by rw [hw1]; exact below_drewN (Below.refl _ w) q)
  clear GR hw1
  cases g with
  | true =>
    clear hb
    go_wp2_with (go_at_call 12; refine (awake_store HK.out _ (HT.out.later B1.out)).mono ?_; rintro e w' ⟨rfl, hb9⟩)
    go_ret
    exact ⟨rfl, B1.out.trans hb9⟩
  | false =>
  have HB := Lib.hid (hb rfl)
  have RT := right_at _ n1 l w1 (H1.out.later B1.out)
  clear hb
  cases hok : okOps l with
  | false =>
    rw [hok] at RT
    clear hok
    go_wp2_with (first | (go_at_call 29; refine RT.mono ?_; rintro e w' ⟨rfl, rfl⟩) | (go_at_call 12; refine (awake_store HK.out _ (HT.out.later B1.out)).mono ?_; rintro e w' ⟨rfl, hb9⟩))
    go_ret
    exact ⟨rfl, B1.out.trans hb9⟩
  | true =>
  rw [hok] at RT
  have HOK := Lib.hid hok
  clear hok
  by_cases x2 : 200 < key.size
  · have y2 : (200 : Int) < (key.size : Int) := by omega
    go_wp2_with (first | (go_at_call 29; refine RT.mono ?_; rintro e w' ⟨rfl, rfl⟩) | (go_at_call 12; refine (awake_store HK.out _ (HT.out.later B1.out)).mono ?_; rintro e w' ⟨rfl, hb9⟩))
    go_ret
    exact ⟨rfl, B1.out.trans hb9⟩
  have y2 : ¬ (200 : Int) < (key.size : Int) := by omega
  have HX2 := Lib.hid (Nat.le_of_not_lt x2)
  have N0 := new_cd 1000000 0 false (.slice none 0 0) (.slice none 0 0) [] [] w1 (Reads.nil w1) (Reads.nil w1) (by simp) (by simp)
  have HN := Lib.hid (key_new l)
  obtain ⟨M0, e0⟩ : ∃ M, M = MD.new 1000000 0 false [] [] := ⟨_, rfl⟩
  rw [← e0] at N0 HN
  clear e0 x2
  go_wp2_with (first | (go_at_call 29; refine RT.mono ?_; rintro e w' ⟨rfl, rfl⟩) | (go_at_call 13; refine N0.mono ?_; rintro e w3 ⟨b, F2, rfl, hc2, t2⟩; have HS2 := Lib.hid (show SesD w w3 w1.heap.size b M0 F2 from ⟨hc2, B1.out.trans (tg9 t2), B1.out.size⟩); clear hc2 t2))
  obtain ⟨base, hbase⟩ : ∃ n, n = w1.heap.size := ⟨_, rfl⟩
  rw [← hbase] at HS2
  have O2 := sess_open HK.out 200 HS2.out HT.out HN.out.2.2 HN.out.1
  unfold theDisk theSt at O2
  try unfold theDisk
  clear N0 hbase RT y2
  go_wp2_with fail
  refine O2.mono ?_
  rintro e w4 ⟨x, rfl, F3, hs3, k3, t3⟩
  have H3 : Hid (KeyAt C w w4 base b x (max 200 0) l 0) := Lib.hid (by
    obtain ⟨S, B, O, hy⟩ := HN.out.2.1
    exact ⟨_, _, _, S, B, O, F3, hy, hs3⟩)
  clear hs3 k3 t3 O2 HN
  obtain ⟨most, hmo⟩ : ∃ m, m = max (200 : Int) 0 := ⟨_, rfl⟩
  rw [← hmo] at H3
  clear hmo
  go_wp2_with (go_at_call 17; refine (num_at _ _).mono ?_; rintro e w' ⟨rfl, rfl⟩)
  go_loopw [8, 9, 10] (fun wv hv iv wr => ∃ (k : Nat) (s : ByteArray) (h : Bool), k ≤ n1 ∧ k ≤ 60 ∧ iv = .int .i64 k ∧ wv = .string s ∧ hv = .bool h ∧ Hid (KeyAt C w wr base b x most l k) ∧ Hid ((h = false → lastO (l.take k) key none = none) ∧ (h = true → lastO (l.take k) key none = some s)))
    (fun _ _ i _ => n1 - (RowKit.intOf i).toNat)
  case atStart => exact ⟨0, ⟨#[]⟩, false, Nat.zero_le _, Nat.zero_le _, rfl, rfl, rfl, H3, Lib.hid ⟨fun _ => rfl, fun h => by cases h⟩⟩
  case round =>
    clear H3
    obtain ⟨k, s, h, hk, hk6, rfl, rfl, rfl, hC, hW⟩ := hrel
    by_cases hlt : k < n1
    · have h3 : (k : Int) < (n1 : Int) := by omega
      by_cases hl6 : k < 60
      · have h4 : (k : Int) < 60 := by omega
        obtain ⟨a, o, rfl, ho, d0, d1, d2, s1, s2⟩ := H1.out.at hlt
        have CM := key_commit HK.out hC.out HT.out HB.out HOK.out hl6 ho (H1.out.one ho hlt)
        have HO := Lib.hid (And.intro ho (And.intro d0 (And.intro d1 d2)))
        have h5 : (k : Int) + 1 ≤ (n1 : Int) := by omega
        have h6 : (k : Int) + 1 ≤ (c1 : Int) := by have := HCP.out; omega
        unfold theSt at CM
        clear ho d0 d1 d2 s1 s2 hC
        by_cases heq : o.key.toList = key.toList
        · have HKE := Lib.hid (text_inj' heq)
          clear heq
          go_wp2_with (first | (go_at_call 17; refine (num_at _ _).mono ?_; rintro e w' ⟨rfl, rfl⟩) | (go_at_call 23; refine CM.mono ?_; rintro e w5 ⟨rfl, hc5⟩; have H5 := Lib.hid hc5; clear hc5; have b1 : w5.cell? ⟨(a.add (k * 3)).block, (a.add (k * 3)).off + 1, none⟩ = some (.string key) := (grow_cell H5.out.grow HO.out.2.2.1).trans (by rw [HKE.out]); have b2 : w5.cell? ⟨(a.add (k * 3)).block, (a.add (k * 3)).off + 2, none⟩ = some (.string o.val) := grow_cell H5.out.grow HO.out.2.2.2; have b0 := grow_cell H5.out.grow HO.out.2.1))
          refine ⟨⟨k + 1, o.val, !o.del, by omega, by omega, by go_num, rfl, by first | rfl | simp, H5, Lib.hid ?_⟩, by simp [RowKit.intOf]; omega⟩
          rw [lastO_next HO.out.1]
          unfold opAt
          rw [if_pos HKE.out]
          cases o.del <;> simp
        · have HKE : Hid (¬ o.key = key) := Lib.hid (fun e => heq (by rw [e]))
          have hbq : (o.key.toList == key.toList) = false := by simpa using heq
          have hbd : ¬ o.key = key := HKE.out
          clear heq
          go_wp2_with (first | (go_at_call 17; refine (num_at _ _).mono ?_; rintro e w' ⟨rfl, rfl⟩) | (go_at_call 23; refine CM.mono ?_; rintro e w5 ⟨rfl, hc5⟩; have H5 := Lib.hid hc5; clear hc5; have b1 : w5.cell? ⟨(a.add (k * 3)).block, (a.add (k * 3)).off + 1, none⟩ = some (.string o.key) := grow_cell H5.out.grow HO.out.2.2.1))
          refine ⟨⟨k + 1, s, h, by omega, by omega, by go_num, rfl, rfl, H5, Lib.hid ?_⟩, by simp [RowKit.intOf]; omega⟩
          rw [lastO_next HO.out.1]
          unfold opAt
          rw [if_neg HKE.out]
          exact hW.out
      · have h4 : ¬ (k : Int) < 60 := by omega
        obtain rfl : k = 60 := by omega
        have GT := key_get HK.out hC.out (by omega) key HX2.out
        have HNN := Lib.hid hW.out
        unfold theSt at GT
        clear hC
        go_wp2_with fail
        refine GT.mono ?_
        rintro e w6 ⟨hg6, (⟨hl, rfl⟩ | ⟨v, hl, rfl⟩)⟩
        · have hh : h = false := by
            cases h with
            | false => rfl
            | true => have := HNN.out.2 rfl; rw [hl] at this; cases this
          subst hh
          have HG := Lib.hid hg6
          clear hl hg6 GT hW HNN
          go_wp2_with (go_at_call 12; refine (awake_store HK.out _ (HT.out.later HG.out)).mono ?_; rintro e w' ⟨rfl, hb9⟩)
          go_ret
          exact ⟨rfl, HG.out.trans hb9⟩
        · have hh : h = true := by
            cases h with
            | true => rfl
            | false => have := HNN.out.1 rfl; rw [hl] at this; cases this
          subst hh
          have hv : s = v := by have := HNN.out.2 rfl; rw [hl] at this; exact (Option.some.inj this).symm
          subst hv
          have HG := Lib.hid hg6
          clear hl hg6 GT hW HNN
          go_wp2_with (go_at_call 12; refine (awake_store HK.out _ (HT.out.later HG.out)).mono ?_; rintro e w' ⟨rfl, hb9⟩)
          go_ret
          exact ⟨rfl, HG.out.trans hb9⟩
    · have h3 : ¬ (k : Int) < (n1 : Int) := by omega
      obtain rfl : k = n1 := by omega
      have GT := key_get HK.out hC.out (by omega) key HX2.out
      have HNN := Lib.hid hW.out
      unfold theSt at GT
      clear hC
      go_wp2_with fail
      refine GT.mono ?_
      rintro e w6 ⟨hg6, (⟨hl, rfl⟩ | ⟨v, hl, rfl⟩)⟩
      · have hh : h = false := by
          cases h with
          | false => rfl
          | true => have := HNN.out.2 rfl; rw [hl] at this; cases this
        subst hh
        have HG := Lib.hid hg6
        clear hl hg6 GT hW HNN
        go_wp2_with (go_at_call 12; refine (awake_store HK.out _ (HT.out.later HG.out)).mono ?_; rintro e w' ⟨rfl, hb9⟩)
        go_ret
        exact ⟨rfl, HG.out.trans hb9⟩
      · have hh : h = true := by
          cases h with
          | true => rfl
          | false => have := HNN.out.1 rfl; rw [hl] at this; cases this
        subst hh
        have hv : s = v := by have := HNN.out.2 rfl; rw [hl] at this; exact (Option.some.inj this).symm
        subst hv
        have HG := Lib.hid hg6
        clear hl hg6 GT hW HNN
        go_wp2_with (go_at_call 12; refine (awake_store HK.out _ (HT.out.later HG.out)).mono ?_; rintro e w' ⟨rfl, hb9⟩)
        go_ret
        exact ⟨rfl, HG.out.trans hb9⟩
end Go.Proofs.YthcdkggkoanjpaaGreatDoor
