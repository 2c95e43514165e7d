/- Numbers of errors; boxes. Numbers and types by name. -/
import Derived.Test.YthglbmnhlnpmkaaGreatOws
import Derived.Test.YthglbmnhlnpmkaaGreatSpt
import Derived.Test.YthglbmnhlnpmkaaGreatRx
import Derived.Test.YthglbmnhlnpmkaaGreatPfr
import Derived.Test.YthglbmnhlnpmkaaGreatPr
import Derived.Test.YthglbmnhlnpmkaaGreatSy2
import Derived.Test.YthglbmnhlnpmkaaGreatCm
import Derived.Test.YthglbmnhlnpmkaaGreatRd
/- Great, of pairs. Numbers and types by name. -/
namespace Go.Proofs.YthglbmnhlnpmkaaGreat
open Go.RowKit Go.Lib

theorem bulkP_append (L M : List Prm) : bulkP (L ++ M) = bulkP L + bulkP M := by simp [bulkP]

/-- What Great leaves. -/
def GreatP (L : List Prm) (w : World) (e : Ending) (w' : World) : Prop := ∃ b q, e = .returned (.bool b) ∧ w' = w.drewN q ∧ (b = false → bulkP L ≤ 3000)

theorem great_pairs (v : Value) (n : Nat) (L : List Prm) (w : World) (hr : Prr w v n L) :
    Calls Tryz.prog 10 #[v] w (GreatP L w) := by
  obtain ⟨ao, c, rfl⟩ := hr.shape
  have HR := Lib.hid hr
  have hm := hr.2.1
  unfold maxLen at hm
  clear hr
  go_enter Tryz.func10, Tryz.ntmps10
  go_wp2_with fail
  go_loopw [3, 4] (fun nv i wr => ∃ k m q : Nat, k ≤ n ∧ i = .int .i64 k ∧ nv = .int .i64 m ∧ m ≤ 9003 ∧ Hid (m ≤ 3000 → bulkP (L.take k) = m) ∧ wr = w.drewN q)
    (fun nv _ _ => 9004 - (RowKit.intOf nv).toNat)
  case atStart => exact ⟨0, 0, 0, Nat.zero_le _, rfl, rfl, by omega, Lib.hid (fun _ => rfl), rfl⟩
  case round =>
    obtain ⟨k, m, q, hk, rfl, rfl, hmm, hb, hw⟩ := hrel
    by_cases h1 : k < n
    · have h3 : (k : Int) < (n : Int) := by omega
      by_cases h2 : m ≤ 3000
      · have h4 : (m : Int) ≤ 3000 := by omega
        have HR' : Prr wr (.slice ao n c) n L := by rw [hw]; exact HR.out
        obtain ⟨a, o, rfl, ho, c1, c2, s1, s2⟩ := HR'.at h1
        have HS := Lib.hid (And.intro ho hw)
        unfold maxLen at s1 s2
        have hb2 := hb.out h2
        have d1 : ∀ j, (wr.drewN j).cell? (a.add (k * 2)) = some (.string o.key) := fun _ => c1
        have d2 : ∀ j, (wr.drewN j).cell? ⟨(a.add (k * 2)).block, (a.add (k * 2)).off + 1, none⟩ = some (.string o.val) := fun _ => c2
        clear ho hw c1 c2 HR'
        go_wp2_with fail
        go_quiet (fail)
        go_wp2
        have hb3 : bulkP (L.take (k + 1)) = m + (1 + o.key.size + o.val.size) := by rw [take_next HS.out.1, bulkP_append, hb2]; simp [bulkP]
        refine ⟨⟨k + 1, m + 1 + min o.key.size 3001 + min o.val.size 3001, q + nq, by omega, by simp, ?_, by omega, Lib.hid (fun h => by omega), by rw [HS.out.2, World.drewN_drewN]⟩, ?_⟩
        · congr 1; omega
        · simp only [RowKit.intOf]; omega
      · have h4 : ¬ (m : Int) ≤ 3000 := by omega
        have h5 : (3000 : Int) < (m : Int) := by omega
        have HW := Lib.hid hw
        clear hw
        go_wp2_with fail
        go_ret
        exact ⟨true, q, rfl, HW.out, by intro h; cases h⟩
    · have h3 : ¬ (k : Int) < (n : Int) := by omega
      have HW := Lib.hid hw
      clear hw
      go_wp2_with fail
      go_ret
      refine ⟨_, q, rfl, HW.out, fun h => ?_⟩
      have h5 : ¬ (3000 : Int) < (m : Int) := of_decide_eq_false h
      have h6 := hb.out (by omega)
      have h7 : k = L.length := by have := HR.out.1; omega
      rw [h7, List.take_length] at h6
      omega

end Go.Proofs.YthglbmnhlnpmkaaGreat

/- The reference's Table, whatever the pairs: the bytes lie in new memory. Numbers and types by name. -/
namespace Go.Proofs.YthglbmnhlnpmkaaGreat
open Go.RowKit Go.Lib Go.Sort

theorem reftable_own (v : Value) (n : Nat) (L : List Prm) (w : World) (hr : Prr w v n L) (hb : bulkP L ≤ 3000) : Calls Tryz.prog 21 #[v] w (ToldB L w) := by
  by_cases hR : Rise L
  · have hn : n ≤ 3000 := by have := hr.1; have := bulkP_length L; omega
    refine (ref_table v n L w hr hR hb hn).mono ?_
    rintro e w' ⟨ao, m, c, rfl, h1, h2⟩
    exact ⟨ao, m, c, by simp [errT, hR], by simp only [bytesT, hR, if_true]; exact h1, h2⟩
  · refine (ref_table_no v n L w hr hR).mono ?_
    rintro e w' ⟨rfl, h2⟩
    exact ⟨none, 0, 0, by simp [errT, hR], by simp only [bytesT, hR, if_false]; exact ⟨rfl, World.ownsRow_nil _ _ _ _⟩, h2⟩

end Go.Proofs.YthglbmnhlnpmkaaGreat

/- The reference's Save and Load. Numbers and types by name. -/
namespace Go.Proofs.YthglbmnhlnpmkaaGreat
open Go.RowKit Go.Lib
set_option maxRecDepth 100000

theorem ref_size (r : Nat) (M : MD) (F G : List Nat) (name : ByteArray) (w : World) (h : RD w r M F G) (hl : M.fs.length < 900000) :
    Calls Tryz.prog 34 #[theRef r, .string name] w fun e w' => ∃ z : Int, e = .returned (.int .i64 z) ∧ decide (0 ≤ z) = M.fs.any (isName name.data.toList) ∧ w = w' := by
  obtain ⟨hf, s, ao, c, xs, hR, hP, hv, hown, hT, rfl, hne, hGd⟩ := h
  have c5 := hR.c5
  rw [hv] at c5
  have HO := Lib.hid (And.intro hown hT)
  clear hR hP hv hown hT hne hGd
  unfold theRef
  obtain ⟨n, hn⟩ : ∃ n, n = M.fs.length := ⟨_, rfl⟩
  rw [← hn] at c5 hl HO
  have HN := Lib.hid hn
  clear hn
  go_enter Tryz.func34, Tryz.ntmps34
  go_wp2
  go_loopw [5] (fun i wr => ∃ k : Nat, k ≤ n ∧ i = .int .i64 k ∧ Hid (∀ j, j < k → ∀ x, M.fs[j]? = some x → isName name.data.toList x = false) ∧ w = wr)
    (fun i _ => n - (RowKit.intOf i).toNat)
  case atStart => exact ⟨0, Nat.zero_le _, rfl, Lib.hid (fun j hj => by omega), rfl⟩
  case round =>
    obtain ⟨k, hk, rfl, hno, rfl⟩ := hrel
    by_cases h1 : k < n
    · have h3 : (k : Int) < (n : Int) := by omega
      obtain ⟨x, hx⟩ : ∃ x, M.fs[k]? = some x := ⟨_, List.getElem?_eq_getElem (by have := HN.out; omega)⟩
      obtain ⟨a1, c1, e1, e2, _⟩ := HO.out.2.2 k x hx
      obtain ⟨g, e, hc, _⟩ := row_cell HO.out.1 (by rw [HO.out.2.1, HN.out]) e1
      obtain ⟨g', e', hc2, _⟩ := row_cell HO.out.1 (by rw [HO.out.2.1, HN.out]) e2
      rw [e] at e'
      cases e'
      subst e
      unfold encStr at hc
      by_cases hnm : isName name.data.toList x = true
      · have hb : (x.1 == name.toList) = true := by
          rw [ByteArray.toList_eq]; simpa using isName_iff.1 hnm
        have HX := Lib.hid (And.intro hx hnm)
        clear hx hnm e1 e2
        go_wp2_with fail
        go_ret
        refine ⟨_, rfl, ?_, rfl⟩
        rw [decide_eq_true (by omega)]
        exact (List.any_eq_true.2 ⟨x, List.mem_of_getElem? HX.out.1, HX.out.2⟩).symm
      · rw [Bool.not_eq_true] at hnm
        have hb : (x.1 == name.toList) = false := by
          rw [ByteArray.toList_eq]
          have : x.1 ≠ name.data.toList := fun e => by rw [isName_iff.2 e] at hnm; cases hnm
          simpa using this
        have HX := Lib.hid (And.intro hx hnm)
        clear hx hnm e1 e2
        go_wp2_with fail
        refine ⟨⟨k + 1, by omega, by simp, Lib.hid (fun j hj y hy => ?_), trivial⟩, by simp [RowKit.intOf]; omega⟩
        by_cases hjk : j < k
        · exact hno.out j hjk y hy
        · obtain rfl : j = k := by omega
          rw [HX.out.1] at hy
          cases hy
          exact HX.out.2
    · have h3 : ¬ (k : Int) < (n : Int) := by omega
      obtain rfl : k = n := by omega
      go_wp2_with fail
      go_ret
      refine ⟨-1, rfl, ?_, rfl⟩
      rw [decide_eq_false (by omega)]
      symm
      rw [List.any_eq_false]
      intro x hx
      obtain ⟨j, hj, rfl⟩ := List.getElem_of_mem hx
      simp [hno.out j (by have := HN.out; omega) _ (List.getElem?_eq_getElem hj)]

theorem ref_load (r : Nat) (M : MD) (F G : List Nat) (w : World) (h : RD w r M F G) (hl : LimF M.fs) (hlen : (loadP M).1.length ≤ 1000000) :
    Calls Tryz.prog 17 #[theRef r] w fun e w' => ∃ ao q c, e = .returned (.tuple #[.slice ao q c, .int .i64 (loadE M)]) ∧ Prr w' (.slice ao q c) q (loadL M) ∧ Turn [] w w' ∧ ∀ a, (Value.slice ao q c).ownBlock = some a → w.heap.size ≤ a := by
  have HR := ref_read r M F G snapS w h hl
  rw [snapS_list] at HR
  unfold loadL loadE
  unfold loadP at *
  obtain ⟨x, hx⟩ : ∃ x, x = (M.read snapK).1 := ⟨_, rfl⟩
  obtain ⟨k, hk⟩ : ∃ k, k = (M.read snapK).2 := ⟨_, rfl⟩
  rw [← hx, ← hk] at HR ⊢
  rw [← hx] at hlen
  obtain ⟨m, hm⟩ : ∃ m, m = x.length := ⟨_, rfl⟩
  rw [← hm] at HR hlen
  have HM := Lib.hid (And.intro hm hlen)
  unfold theRef snapS at HR
  unfold theRef
  clear h hl hx hk hm hlen
  go_enter Tryz.func17, Tryz.ntmps17
  go_wp2_with fail
  refine HR.mono ?_
  rintro e w1 ⟨ao, c, rfl, hB, t⟩
  have H1 := Lib.hid (And.intro hB t)
  clear hB t HR
  by_cases h0 : k = 0
  · subst h0
    have D := ref_from (.slice ao m c) m x w1 H1.out.1.reads HM.out.1 HM.out.2
    go_wp2_with fail
    refine D.mono ?_
    rintro e w2 hD
    obtain ⟨a2, q2, c2, rfl, h2, h3, h4⟩ := hD.fresh
    have H2 := Lib.hid (And.intro h2 (And.intro h3 h4))
    clear h2 h3 h4 hD D
    go_wp2_with fail
    go_ret2
    refine ⟨a2, q2, c2, ?_, ?_, ?_, fun a ha => Nat.le_trans H1.out.2.size (H2.out.2.2 a ha)⟩
    · rfl
    · exact H2.out.1
    · exact H1.out.2.trans (turn_below H2.out.2.1)
  · by_cases h3 : k = 3
    · subst h3
      go_wp2_with fail
      go_ret2
      exact ⟨none, 0, 0, rfl, Prr.nil _, H1.out.2, fun a h => by cases h⟩
    · have e1 : ldE k x = k := by unfold ldE; rw [if_neg h0, if_neg h3]
      have e2 : ldL k x = [] := by unfold ldL; rw [if_neg h0]
      have HX := Lib.hid (And.intro e1 e2)
      clear e1 e2
      go_wp2_with fail
      go_ret2
      refine ⟨none, 0, 0, ?_, ?_, H1.out.2, fun a h => by cases h⟩
      · rw [HX.out.1]; rfl
      · rw [HX.out.2]; exact Prr.nil _

end Go.Proofs.YthglbmnhlnpmkaaGreat

/- Read of either disk beside the other. Numbers and types by name. -/
namespace Go.Proofs.YthglbmnhlnpmkaaGreat
open Go.RowKit Go.Maps Go.Sort Go.WideMaps

theorem turn_grow {w w' : World} (t : Turn [] w w') : Grow w w' := t.below (Nat.le_refl _) (by simp)
theorem grow_turn {w w' : World} (h : Grow w w') : Turn [] w w' := turn_below h

theorem read_any_both {X : Nat → Prop} {w : World} {base b r : Nat} {M M2 : MD} (h : Both X w base b r M M2) (hl : Lim M) (name : ByteArray) (hz : name.size ≤ 1000000) :
    Calls Tryz.prog 40 #[theDisk b, .string name] w fun e w' => ∃ ao c, e = .returned (.tuple #[.slice ao (M.read name.data.toList).1.length c, .int .i64 (M.read name.data.toList).2]) ∧
      Reads w' (.slice ao (M.read name.data.toList).1.length c) (bv (M.read name.data.toList).1) ∧ Both X w' base b r M M2 ∧ Stays X w w' := by
  have h' := h
  obtain ⟨h0, Fd, Fr, G, h1, h2, h3, h4⟩ := h
  refine (read_cd base b M Fd name w h1 hl.fs hz).mono ?_
  rintro e w' ⟨ao, c, rfl, hB, t⟩
  exact ⟨ao, c, rfl, hB.reads, h'.new t, Stays.of_turn t fun q hq => ⟨h0 q hq, by simp⟩⟩

theorem ref_any_both {X : Nat → Prop} {w : World} {base b r : Nat} {M M1 : MD} (h : Both X w base b r M1 M) (hl : Lim M) (name : ByteArray) :
    Calls Tryz.prog 42 #[theRef r, .string name] w fun e w' => ∃ ao c, e = .returned (.tuple #[.slice ao (M.read name.data.toList).1.length c, .int .i64 (M.read name.data.toList).2]) ∧
      Reads w' (.slice ao (M.read name.data.toList).1.length c) (bv (M.read name.data.toList).1) ∧ Both X w' base b r M1 M ∧ (∀ v xs, Reads w v xs → Reads w' v xs) ∧ Stays X w w' := by
  have h' := h
  obtain ⟨h0, Fd, Fr, G, h1, h2, h3, h4⟩ := h
  refine (ref_read r M Fr G name w h2 hl.fs).mono ?_
  rintro e w' ⟨ao, c, rfl, hB, t⟩
  exact ⟨ao, c, rfl, hB.reads, h'.new t, fun v xs hr => hr.turn t (by simp), Stays.of_turn t fun q hq => ⟨h0 q hq, by simp⟩⟩

end Go.Proofs.YthglbmnhlnpmkaaGreat

/- Are both disks one? Numbers and types by name. -/
namespace Go.Proofs.YthglbmnhlnpmkaaGreat
open Go.RowKit Go.Maps Go.Sort Go.WideMaps

theorem FlR.later {w w' : World} {v : Value} {fs : List Ent} (h : FlR w v fs) (t : Turn [] w w') : FlR w' v fs := by
  obtain ⟨ao, c, xs, hv, hl, h1, h2, h3⟩ := h
  refine ⟨ao, c, xs, hv, hl, fun a ha j u hj => ?_, h2, fun j x hj => ?_⟩
  · have h0 := h1 a ha j u hj
    exact (World.cell?_of_block (t.block _ (World.block_lt_of_cell? w _ h0) (by simp))).trans h0
  · obtain ⟨ab, cb, e1, e2, e3, e4⟩ := h3 j x hj
    exact ⟨ab, cb, e1, e2, e3, e4.turn t (by simp)⟩

/-- What is seen of the reference's disk. -/
theorem RD.sees {w : World} {r : Nat} {M : MD} {F G : List Nat} (h : RD w r M F G) : ∃ ao c, w.cell? ⟨r, 5, none⟩ = some (.slice ao M.fs.length c) ∧ w.cell? ⟨r, 6, none⟩ = some (.int .i64 M.n) ∧ w.cell? ⟨r, 7, none⟩ = some (.bool M.dw) ∧ FlR w (.slice ao M.fs.length c) M.fs := by
  obtain ⟨_, s, ao, c, xs, hR, hP, hv, hown, hT, _⟩ := h
  refine ⟨ao, c, ?_, ?_, ?_, FlR.ref hown hT⟩
  · rw [hR.c5, hv]
  · rw [hR.c6, hP.n]
  · rw [hR.c7, hP.dw]

theorem cell_up {w : World} {a : Addr} {v : Value} (h : w.cell? a = some v) : ∀ w', Grow w w' → w'.cell? a = some v := fun _ hg =>
  (World.cell?_of_block (hg.block _ (World.block_lt_of_cell? w _ h))).trans h

set_option maxRecDepth 100000 in
set_option maxHeartbeats 4000000 in
theorem same_any_f {X : Nat → Prop} (base b r : Nat) (M : MD) (w : World) (h : Both X w base b r M M) (hl : LimF M.fs) :
    Calls Tryz.prog 19 #[theDisk b, theRef r] w fun e w' => e = .returned (.bool true) ∧ Turn [] w w' := by
  have h0 := h.new ((Turn.refl [] w).drewN 1)
  obtain ⟨_, Fd, Fr, G, h1, h2, _, _⟩ := h0
  obtain ⟨aF, cF, k5, k6, k7, hF⟩ := h2.sees
  obtain ⟨n, hn⟩ : ∃ n, n = M.fs.length := ⟨_, rfl⟩
  rw [← hn] at k5 hF
  have HC := Lib.hid (And.intro h1 (And.intro hF (And.intro hl hn)))
  obtain ⟨cn, hcn⟩ : ∃ cn, cn = M.n := ⟨_, rfl⟩
  obtain ⟨dw, hdw⟩ : ∃ dw, dw = M.dw := ⟨_, rfl⟩
  rw [← hcn] at k6
  rw [← hdw] at k7
  have HN := Lib.hid (And.intro hcn hdw)
  have u5 := cell_up k5
  have u6 := cell_up k6
  have u7 := cell_up k7
  clear h h1 h2 hF hl hn k5 k6 k7 hcn hdw
  change ∀ w', Grow w.drew w' → _ at u5
  change ∀ w', Grow w.drew w' → _ at u6
  change ∀ w', Grow w.drew w' → _ at u7
  unfold theDisk theRef
  go_enter Tryz.func19, Tryz.ntmps19
  go_wp2_with fail
  refine wp_region_mv [(0, 1, true), (2, 4, true), (1, 1, false), (6, 1, false), (7, 2, true), (10, 4, true), (9, 1, false), (14, 4, true), (19, 4, true), (18, 1, false), (23, 3, true)] (by kernel_rfl) (by kernel_rfl) ?_
  simp only [mvAll, mvSeg, List.drop_succ_cons, List.drop_zero, List.cons_append, List.nil_append, Nat.reduceAdd]
  iterate 5
    refine wpLin_still ?_ (fun w' hG K hK => ?_) (fun K hK => ?_)
    rotate_left
    · have d5 := u5 w' hG
      clear hG
      unfold mvVal
      go_simp
      try exact hK
    go_simp
    refine hK _ ?_
    clear hK K
  refine wpLin_call (fun K hK => ?_)
  unfold mvRun
  go_simp
  simp only [mvUpon]
  refine (files_cd base b M Fd w.drew HC.out.1 HC.out.2.2.1).mono ?_
  rintro e w1 ⟨ao, c, xs, rfl, hown, hT, t1⟩
  have hf1 : FlR w1 (.slice ao M.fs.length c) M.fs := FlR.told hown hT
  have hf2 := HC.out.2.1.later t1
  rw [← HC.out.2.2.2] at hf1
  refine ⟨_, rfl, ?_⟩
  rw [← HC.out.2.2.2]
  go_simp
  refine hK _ _ (turn_grow t1) ?_
  clear hK K
  have HD1 := Lib.hid (HC.out.1.new t1)
  have HF := Lib.hid (And.intro hf1 (And.intro hf2 t1))
  clear hf1 hf2 hown hT t1
  refine wpLin_call (fun K hK => ?_)
  unfold mvRun
  go_simp
  simp only [mvUpon]
  refine (ref_files _ _ M.fs w1 HF.out.1 HF.out.2.1 HC.out.2.2.1.len).mono ?_
  rintro e w2 ⟨rfl, t2⟩
  refine ⟨_, rfl, ?_⟩
  go_simp
  refine hK _ _ (turn_grow t2) ?_
  clear hK K
  have HD2 := Lib.hid (HD1.out.new t2)
  have HT2 := Lib.hid (HF.out.2.2.trans t2)
  have v6 : ∀ w', Grow w2 w' → w'.cell? ⟨r, 6, none⟩ = some (.int .i64 cn) := fun w' hg => u6 w' (Grow.trans (turn_grow HT2.out) hg)
  have v7 : ∀ w', Grow w2 w' → w'.cell? ⟨r, 7, none⟩ = some (.bool dw) := fun w' hg => u7 w' (Grow.trans (turn_grow HT2.out) hg)
  have HCC := calls_cd base b M Fd w2 HD2.out
  have HDW := down_cd base b M Fd w2 HD2.out
  unfold theDisk at HCC HDW
  rw [← HN.out.1] at HCC
  rw [← HN.out.2] at HDW
  clear t2 HD1 HF u5 u6 u7
  iterate 6
    refine wpLin_still ?_ (fun w' hG K hK => ?_) (fun K hK => ?_)
    rotate_left
    · have d6 := v6 w' hG
      clear hG
      unfold mvVal
      go_simp
      try exact hK
    go_simp
    refine hK _ ?_
    clear hK K
  refine wpLin_call (fun K hK => ?_)
  unfold mvRun
  go_simp
  simp only [mvUpon]
  refine HCC.mono ?_
  rintro e w3 ⟨rfl, rfl⟩
  refine ⟨_, rfl, ?_⟩
  go_simp
  refine hK _ _ (Grow.refl _) ?_
  clear hK K HCC
  iterate 8
    refine wpLin_still ?_ (fun w' hG K hK => ?_) (fun K hK => ?_)
    rotate_left
    · have d7 := v7 w' hG
      clear hG
      unfold mvVal
      go_simp
      try exact hK
    go_simp
    refine hK _ ?_
    clear hK K
  refine wpLin_call (fun K hK => ?_)
  unfold mvRun
  go_simp
  simp only [mvUpon]
  refine HDW.mono ?_
  rintro e w4 ⟨rfl, rfl⟩
  refine ⟨_, rfl, ?_⟩
  go_simp
  refine hK _ _ (Grow.refl _) ?_
  clear hK K HDW
  iterate 3
    refine wpLin_still ?_ (fun w' hG K hK => ?_) (fun K hK => ?_)
    rotate_left
    · unfold mvVal
      go_simp
      try exact hK
    go_simp
    refine hK _ ?_
    clear hK K
  refine wpLin_nil ?_
  go_wp2_with fail
  go_ret
  exact ⟨rfl, ((Turn.refl [] w).drewN 1).trans HT2.out⟩

theorem same_any {X : Nat → Prop} (base b r : Nat) (M : MD) (w : World) (h : Both X w base b r M M) (hl : Lim M) :
    Calls Tryz.prog 19 #[theDisk b, theRef r] w fun e w' => e = .returned (.bool true) ∧ Turn [] w w' := same_any_f base b r M w h hl.fs

end Go.Proofs.YthglbmnhlnpmkaaGreat

/- Is there a draft among the files? Numbers and types by name. -/
namespace Go.Proofs.YthglbmnhlnpmkaaGreat
open Go.RowKit Go.Lib Go.Maps Go.Sort Go.WideMaps
set_option maxRecDepth 100000

theorem draft_clo (s : ByteArray) (ao : Option Addr) (n c : Nat) (y : Int) (w : World) : Calls Tryz.prog 64 #[.agg #[.string s, .slice ao n c, .int .i64 y]] w fun e w' => e = .returned (.bool (s.toList == tmpK)) ∧ Turn [] w w' := by
  have hb1 := heap_alloc_new w (.cells #[.string s, .slice ao n c, .int .i64 y] 70)
  have HW : Hid (Turn [] w (w.alloc (.cells #[.string s, .slice ao n c, .int .i64 y] 70))) := Lib.hid ((Turn.refl [] w).alloc _)
  go_enter Tryz.func64, Tryz.ntmps64
  go_wp2_with fail
  go_ret
  exact ⟨rfl, HW.out⟩

theorem draft_name (x : Ent) : ((⟨x.1.toArray⟩ : ByteArray).toList == tmpK) = isName tmpK x := by
  rw [ByteArray.toList_eq]
  show (x.1.toArray.toList == tmpK) = (x.1 == tmpK)
  rw [List.toList_toArray]

theorem index_files (v : Value) (fs : List Ent) (w : World) (h : FlR w v fs) (hl : fs.length < 900000) :
    Calls Tryz.prog 90 #[v, .func (.func 64) #[] #[]] w fun e w' => ∃ z : Int, e = .returned (.int .i64 z) ∧ decide (0 ≤ z) = fs.any (isName tmpK) ∧ Turn [] w w' := by
  have HF := Lib.hid h
  obtain ⟨ao, c, xs, rfl, hxl, hxc, hxn, hxt⟩ := h
  obtain ⟨n, hn⟩ : ∃ n, n = fs.length := ⟨_, rfl⟩
  rw [← hn] at hxl hl HF ⊢
  have HA := Lib.hid hxn
  have HN := Lib.hid hn
  clear hxl hxc hxn hxt hn
  go_enter Tryz.func90, Tryz.ntmps90
  go_wp2_with fail
  go_loopw [8] (fun iv wr => ∃ j : Nat, j ≤ n ∧ iv = .int .i64 j ∧ Hid (Turn [] w wr ∧ ∀ i, i < j → ∀ x, fs[i]? = some x → isName tmpK x = false))
    (fun iv _ => n - (RowKit.intOf iv).toNat)
  case atStart => exact ⟨0, Nat.zero_le _, rfl, Lib.hid ⟨Turn.refl _ _, fun i hi => absurd hi (Nat.not_lt_zero _)⟩⟩
  case round =>
    obtain ⟨j, hj, rfl, hs⟩ := hrel
    by_cases h1 : j < n
    · have h3 : (j : Int) < (n : Int) := by omega
      obtain ⟨x, hx⟩ : ∃ x, fs[j]? = some x := ⟨_, List.getElem?_eq_getElem (by have := HN.out; omega)⟩
      obtain ⟨a, rfl⟩ : ∃ a, ao = some a := by
        cases ao with
        | none => have := HA.out rfl; rw [this] at hx; cases hx
        | some a => exact ⟨a, rfl⟩
      obtain ⟨ao', c', xs, e, hxl, hxc, hxn, hxt⟩ := HF.out.later hs.out.1
      cases e
      obtain ⟨a1, c1, p1, p2, p3, p4⟩ := hxt j x hx
      have k1 := hxc a rfl _ _ p1
      have k2 := hxc a rfl _ _ p2
      rw [← Addr.add_add] at k2
      have k2' : wr.cell? ⟨(a.add (j * 3)).block, (a.add (j * 3)).off + 1, none⟩ = _ := k2
      have k3 := hxc a rfl _ _ p3
      rw [← Addr.add_add] at k3
      have k3' : wr.cell? ⟨(a.add (j * 3)).block, (a.add (j * 3)).off + 2, none⟩ = _ := k3
      unfold encStr at k1
      have CL := Lib.hid (fun w => draft_clo (⟨x.1.toArray⟩ : ByteArray) a1 x.2.1.length c1 (x.2.2 : Nat) w)
      have HX := Lib.hid (And.intro hx (draft_name x))
      clear hx hxl hxc hxn hxt p1 p2 p3 p4
      by_cases hd : isName tmpK x = true
      · have hd' : ((⟨x.1.toArray⟩ : ByteArray).toList == tmpK) = true := by rw [draft_name]; exact hd
        have HD := Lib.hid hd
        clear hd
        go_wp2_with (go_at_call 64; refine (CL.out _).mono ?_; rintro e w' ⟨rfl, t⟩; rw [hd'])
        go_ret
        refine ⟨j, rfl, ?_, hs.out.1.trans t⟩
        rw [decide_eq_true (by omega)]
        exact (List.any_eq_true.2 ⟨x, List.mem_of_getElem? HX.out.1, HD.out⟩).symm
      · rw [Bool.not_eq_true] at hd
        have hd' : ((⟨x.1.toArray⟩ : ByteArray).toList == tmpK) = false := by rw [draft_name]; exact hd
        have HD := Lib.hid hd
        clear hd
        go_wp2_with (go_at_call 64; refine (CL.out _).mono ?_; rintro e w' ⟨rfl, t⟩; rw [hd'])
        refine ⟨⟨j + 1, by omega, by simp, Lib.hid ⟨hs.out.1.trans t, fun i hi y hy => ?_⟩⟩, by simp [RowKit.intOf]; omega⟩
        by_cases hij : i < j
        · exact hs.out.2 i hij y hy
        · obtain rfl : i = j := by omega
          rw [HX.out.1] at hy
          cases hy
          exact HD.out
    · have h3 : ¬ (j : Int) < (n : Int) := by omega
      obtain rfl : j = n := by omega
      go_wp2_with fail
      go_ret
      refine ⟨-1, rfl, ?_, hs.out.1⟩
      rw [decide_eq_false (by omega)]
      symm
      rw [List.any_eq_false]
      intro x hx
      obtain ⟨i, hi, rfl⟩ := List.getElem_of_mem hx
      simp [hs.out.2 i (by have := HN.out; omega) _ (List.getElem?_eq_getElem hi)]

theorem contains_files (v : Value) (fs : List Ent) (w : World) (h : FlR w v fs) (hl : fs.length < 900000) :
    Calls Tryz.prog 65 #[v, .func (.func 64) #[] #[]] w fun e w' => e = .returned (.bool (fs.any (isName tmpK))) ∧ Turn [] w w' := by
  have H := index_files v fs w h hl
  clear h hl
  obtain ⟨bt, hbt⟩ : ∃ bt, bt = fs.any (isName tmpK) := ⟨_, rfl⟩
  rw [← hbt] at H ⊢
  clear hbt
  go_enter Tryz.func65, Tryz.ntmps65
  go_wp2_with fail
  refine H.mono ?_
  rintro e w1 ⟨z, rfl, hz, t⟩
  have HT := Lib.hid (And.intro hz t)
  clear hz t H
  go_wp2_with fail
  go_ret
  refine ⟨?_, HT.out.2⟩
  rw [← HT.out.1]
  rfl

end Go.Proofs.YthglbmnhlnpmkaaGreat

namespace Go.Proofs.YthglbmnhlnpmkaaGreat
open Go.RowKit Go.Maps Go.Sort Go.WideMaps

theorem box_cell {w : World} {cs : Array Value} {t : TypeId} {j : Nat} {v : Value} (h : cs[j]? = some v) : (w.alloc (.cells cs t)).cell? ⟨w.heap.size, j, none⟩ = some v := cells_of (heap_alloc_new w (.cells cs t)) j v h

theorem num_eq (k : Int) (w : World) : Calls Tryz.prog 13 #[.int .i64 k] w fun e w' => e = .returned (.int .i64 k) ∧ w' = w := by
  go_enter Tryz.func13, Tryz.ntmps13
  go_wp2_with fail
  go_ret
  exact ⟨rfl, rfl⟩

end Go.Proofs.YthglbmnhlnpmkaaGreat
