/- An act on both disks: the other calls that write. Numbers and types by name. -/
import Derived.Test.YtmpjjnjggiipjaaDo
import Derived.Test.YtmpjjnjggiipjaaRr
namespace Go.Proofs.Ytmpjjnjggiipjaa
open Go.RowKit Go.Maps Go.Sort Go.WideMaps

set_option maxRecDepth 100000 in
set_option maxHeartbeats 4000000 in
theorem do_append1 (N base b r : Nat) (M : MD) (nm to : ByteArray) (aB : Option Addr) (lB cB : Nat) (n cap : Int) (aF : Option Addr) (lF cF : Nat) (cr : Int) (dn : Bool) (aK : Option Addr) (lK cK : Nat) (w : World)
    (h : Both (· < N) w base b r M M) (hl : Lim M) (hz : nm.size ≤ 1000000) (hz2 : to.size ≤ 1000000) (l : List UInt8) (hlB : lB = l.length) (hr : Reads w (.slice aB l.length cB) (bv l)) (hll : l.length ≤ 50000000) (hcap : M.cap ≤ 9223372036854775807) (hvb : l ≠ [] → ∀ a m c, Value.slice aB l.length cB = .slice (some a) m c → a.block < N) :
    Calls Try.prog 8 #[theDisk b, theRef r, actV 1 nm to (.slice aB lB cB) n cap (.slice aF lF cF) cr dn (.slice aK lK cK)] w fun e w' => e = .returned (.bool true) ∧
      Both (· < N) w' base b r (M.act (opAppend nm.data.toList l)).2 (M.act (opAppend nm.data.toList l)).2 ∧ Stays (· < N) w w' ∧ w.heap.size < w'.heap.size := by
  have HB := Lib.hid (h.box (actO 1 nm to (.slice aB lB cB) n cap (.slice aF lF cF) cr dn (.slice aK lK cK)))
  have HS : Hid (Stays (· < N) w (w.alloc (actO 1 nm to (.slice aB lB cB) n cap (.slice aF lF cF) cr dn (.slice aK lK cK))) ∧ w.heap.size < (w.alloc (actO 1 nm to (.slice aB lB cB) n cap (.slice aF lF cF) cr dn (.slice aK lK cK))).heap.size) := Lib.hid ⟨Stays.of_turn ((Turn.refl [] w).alloc _) fun q hq => ⟨h.1 q hq, by simp⟩, by simp⟩
  subst hlB
  have HR := Lib.hid (And.intro hll (And.intro hcap (And.intro hvb hr)))
  have HL := Lib.hid (And.intro hl (And.intro hz hz2))
  clear hr hll hcap hvb
  obtain ⟨k, hk⟩ : ∃ k, k = (M.act (opAppend nm.data.toList l)).1 := ⟨_, rfl⟩
  have HK := Lib.hid hk
  clear h hl hz hz2 hk
  unfold actO at HB HS
  unfold theDisk theRef actV
  go_enter Try.func8, Try.ntmps8
  go_wp2_with fail
  generalize hW : w.alloc (.cells #[.int .i64 1, .string nm, .string to, .slice aB l.length cB, .int .i64 n, .int .i64 cap, .slice aF lF cF, .int .i64 cr, .bool dn, .slice aK lK cK] 35) = W at *
  have hc1 : ∀ w', Stays (fun q => q < N ∨ q = w.heap.size) W.drew w' → w'.cell? ⟨w.heap.size, 1, none⟩ = some (.string nm) := fun w' hS => hS.cell (.inr rfl) (by rw [← hW]; exact box_cell rfl)
  have hc3 : ∀ w', Stays (fun q => q < N ∨ q = w.heap.size) W.drew w' → w'.cell? ⟨w.heap.size, 3, none⟩ = some (.slice aB l.length cB) := fun w' hS => hS.cell (.inr rfl) (by rw [← hW]; exact box_cell rfl)
  have HR1 : Hid (Reads W.drew (.slice aB l.length cB) (bv l)) := Lib.hid (by rw [← hW]; exact HR.out.2.2.2.turn (F := []) (((Turn.refl [] w).alloc _).drewN 1) (by simp))
  clear hW
  have HB0 := Lib.hid (HB.out.new ((Turn.refl [] W).drewN 1))
  have HS0 : Hid (Stays (· < N) w W.drew ∧ w.heap.size < W.drew.heap.size) := Lib.hid ⟨HS.out.1.trans (Stays.drew W), HS.out.2⟩
  refine wp_region_mvg (Stays (fun q => q < N ∨ q = w.heap.size)) (Stays.refl _) (fun h k => h.trans k) [(0, 5, true), (7, 5, true), (5, 1, false), (6, 1, false), (12, 1, false), (13, 2, true)] (by kernel_rfl) (by kernel_rfl) ?_
  simp only [mvAll, mvSeg, List.drop_succ_cons, List.drop_zero, List.cons_append, List.nil_append, Nat.reduceAdd]
  iterate 10
    refine wpLing_still ?_ (fun w' hG K hK => ?_) (fun K hK => ?_)
    rotate_left
    · have hcs := And.intro hG trivial
      have hd1 := hc1 w' hG
      have hd3 := hc3 w' hG
      clear hG hcs
      unfold mvVal
      go_simp
      try exact hK
    go_simp
    refine hK _ ?_
    clear hK K
  clear hc1 hc3
  refine wpLing_call (fun K hK => ?_)
  unfold mvRun
  go_simp
  simp only [mvUpon]
  refine (code_op HB0.out (fun F h1 hX => append_cd base b M F nm _ l _ h1 HL.out.1 HL.out.2.1 HR1.out HR.out.1 (fun hne a m c e hm => hX _ hm (.inl (HR.out.2.2.1 hne a m c e))))).mono ?_
  rw [← HK.out]
  rintro e w1 ⟨rfl, hB1, hS1⟩
  refine ⟨_, rfl, ?_⟩
  go_simp
  refine hK _ _ hS1 ?_
  clear hK K
  have HB1 := Lib.hid hB1
  have HS1 := Lib.hid hS1
  clear hB1 hS1 HB0
  refine wpLing_call (fun K hK => ?_)
  unfold mvRun
  go_simp
  simp only [mvUpon]
  refine (num_eq k w1).mono ?_
  rintro e w2 ⟨rfl, rfl⟩
  refine ⟨_, rfl, ?_⟩
  go_simp
  refine hK _ _ (Stays.refl _ _) ?_
  clear hK K
  refine wpLing_call (fun K hK => ?_)
  unfold mvRun
  go_simp
  simp only [mvUpon]
  refine (ref_op HB1.out (fun F G h1 hX => ref_append r M F G nm _ l _ h1 HL.out.1 HR.out.2.1 (HS1.out.reads HR1.out fun hne a m c e => .inl (HR.out.2.2.1 (by rintro rfl; exact hne rfl) a m c e)) HR.out.1 (fun hne a m c e hm => hX _ hm (.inl (HR.out.2.2.1 hne a m c e))))).mono ?_
  rw [← HK.out]
  rintro e w3 ⟨rfl, hB3, hS3⟩
  refine ⟨_, rfl, ?_⟩
  go_simp
  refine hK _ _ hS3 ?_
  clear hK K
  have HE := Lib.hid (And.intro (hB3.less (Y := (· < N)) (fun q hq => .inl hq)) (And.intro (HS0.out.1.trans ((HS1.out.trans hS3).less (Y := (· < N)) fun q hq => .inl hq)) (Nat.lt_of_lt_of_le HS0.out.2 (HS1.out.trans hS3).1.size)))
  clear hB3 hS3 HB1 HS1 HS0 HB HS HL HK
  iterate 2
    refine wpLing_still ?_ (fun w' hG K hK => ?_) (fun K hK => ?_)
    rotate_left
    · unfold mvVal
      go_simp
      try exact hK
    go_simp
    refine hK _ ?_
    clear hK K
  refine wpLing_nil ?_
  go_wp2_with fail
  go_ret
  exact ⟨rfl, HE.out.1, HE.out.2⟩

set_option maxRecDepth 100000 in
set_option maxHeartbeats 4000000 in
theorem do_append2 (N base b r : Nat) (M : MD) (nm to : ByteArray) (aB : Option Addr) (lB cB : Nat) (n cap : Int) (aF : Option Addr) (lF cF : Nat) (cr : Int) (dn : Bool) (aK : Option Addr) (lK cK : Nat) (w : World)
    (h : Both (· < N) w base b r M M) (hl : Lim M) (hz : nm.size ≤ 1000000) (hz2 : to.size ≤ 1000000) (l : List UInt8) (hlB : lB = l.length) (hr : Reads w (.slice aB l.length cB) (bv l)) (hll : l.length ≤ 50000000) (hcap : M.cap ≤ 9223372036854775807) (hvb : l ≠ [] → ∀ a m c, Value.slice aB l.length cB = .slice (some a) m c → a.block < N) :
    Calls Try.prog 8 #[theDisk b, theRef r, actV 2 nm to (.slice aB lB cB) n cap (.slice aF lF cF) cr dn (.slice aK lK cK)] w fun e w' => e = .returned (.bool true) ∧
      Both (· < N) w' base b r (M.act (opAppend nm.data.toList l)).2 (M.act (opAppend nm.data.toList l)).2 ∧ Stays (· < N) w w' ∧ w.heap.size < w'.heap.size := by
  have HB := Lib.hid (h.box (actO 2 nm to (.slice aB lB cB) n cap (.slice aF lF cF) cr dn (.slice aK lK cK)))
  have HS : Hid (Stays (· < N) w (w.alloc (actO 2 nm to (.slice aB lB cB) n cap (.slice aF lF cF) cr dn (.slice aK lK cK))) ∧ w.heap.size < (w.alloc (actO 2 nm to (.slice aB lB cB) n cap (.slice aF lF cF) cr dn (.slice aK lK cK))).heap.size) := Lib.hid ⟨Stays.of_turn ((Turn.refl [] w).alloc _) fun q hq => ⟨h.1 q hq, by simp⟩, by simp⟩
  subst hlB
  have HR := Lib.hid (And.intro hll (And.intro hcap (And.intro hvb hr)))
  have HL := Lib.hid (And.intro hl (And.intro hz hz2))
  clear hr hll hcap hvb
  obtain ⟨k, hk⟩ : ∃ k, k = (M.act (opAppend nm.data.toList l)).1 := ⟨_, rfl⟩
  have HK := Lib.hid hk
  clear h hl hz hz2 hk
  unfold actO at HB HS
  unfold theDisk theRef actV
  go_enter Try.func8, Try.ntmps8
  go_wp2_with fail
  generalize hW : w.alloc (.cells #[.int .i64 2, .string nm, .string to, .slice aB l.length cB, .int .i64 n, .int .i64 cap, .slice aF lF cF, .int .i64 cr, .bool dn, .slice aK lK cK] 35) = W at *
  have hc1 : ∀ w', Stays (fun q => q < N ∨ q = w.heap.size) W.drew w' → w'.cell? ⟨w.heap.size, 1, none⟩ = some (.string nm) := fun w' hS => hS.cell (.inr rfl) (by rw [← hW]; exact box_cell rfl)
  have hc3 : ∀ w', Stays (fun q => q < N ∨ q = w.heap.size) W.drew w' → w'.cell? ⟨w.heap.size, 3, none⟩ = some (.slice aB l.length cB) := fun w' hS => hS.cell (.inr rfl) (by rw [← hW]; exact box_cell rfl)
  have HR1 : Hid (Reads W.drew (.slice aB l.length cB) (bv l)) := Lib.hid (by rw [← hW]; exact HR.out.2.2.2.turn (F := []) (((Turn.refl [] w).alloc _).drewN 1) (by simp))
  clear hW
  have HB0 := Lib.hid (HB.out.new ((Turn.refl [] W).drewN 1))
  have HS0 : Hid (Stays (· < N) w W.drew ∧ w.heap.size < W.drew.heap.size) := Lib.hid ⟨HS.out.1.trans (Stays.drew W), HS.out.2⟩
  refine wp_region_mvg (Stays (fun q => q < N ∨ q = w.heap.size)) (Stays.refl _) (fun h k => h.trans k) [(0, 5, true), (7, 5, true), (5, 1, false), (6, 1, false), (12, 1, false), (13, 2, true)] (by kernel_rfl) (by kernel_rfl) ?_
  simp only [mvAll, mvSeg, List.drop_succ_cons, List.drop_zero, List.cons_append, List.nil_append, Nat.reduceAdd]
  iterate 10
    refine wpLing_still ?_ (fun w' hG K hK => ?_) (fun K hK => ?_)
    rotate_left
    · have hcs := And.intro hG trivial
      have hd1 := hc1 w' hG
      have hd3 := hc3 w' hG
      clear hG hcs
      unfold mvVal
      go_simp
      try exact hK
    go_simp
    refine hK _ ?_
    clear hK K
  clear hc1 hc3
  refine wpLing_call (fun K hK => ?_)
  unfold mvRun
  go_simp
  simp only [mvUpon]
  refine (code_op HB0.out (fun F h1 hX => append_cd base b M F nm _ l _ h1 HL.out.1 HL.out.2.1 HR1.out HR.out.1 (fun hne a m c e hm => hX _ hm (.inl (HR.out.2.2.1 hne a m c e))))).mono ?_
  rw [← HK.out]
  rintro e w1 ⟨rfl, hB1, hS1⟩
  refine ⟨_, rfl, ?_⟩
  go_simp
  refine hK _ _ hS1 ?_
  clear hK K
  have HB1 := Lib.hid hB1
  have HS1 := Lib.hid hS1
  clear hB1 hS1 HB0
  refine wpLing_call (fun K hK => ?_)
  unfold mvRun
  go_simp
  simp only [mvUpon]
  refine (num_eq k w1).mono ?_
  rintro e w2 ⟨rfl, rfl⟩
  refine ⟨_, rfl, ?_⟩
  go_simp
  refine hK _ _ (Stays.refl _ _) ?_
  clear hK K
  refine wpLing_call (fun K hK => ?_)
  unfold mvRun
  go_simp
  simp only [mvUpon]
  refine (ref_op HB1.out (fun F G h1 hX => ref_append r M F G nm _ l _ h1 HL.out.1 HR.out.2.1 (HS1.out.reads HR1.out fun hne a m c e => .inl (HR.out.2.2.1 (by rintro rfl; exact hne rfl) a m c e)) HR.out.1 (fun hne a m c e hm => hX _ hm (.inl (HR.out.2.2.1 hne a m c e))))).mono ?_
  rw [← HK.out]
  rintro e w3 ⟨rfl, hB3, hS3⟩
  refine ⟨_, rfl, ?_⟩
  go_simp
  refine hK _ _ hS3 ?_
  clear hK K
  have HE := Lib.hid (And.intro (hB3.less (Y := (· < N)) (fun q hq => .inl hq)) (And.intro (HS0.out.1.trans ((HS1.out.trans hS3).less (Y := (· < N)) fun q hq => .inl hq)) (Nat.lt_of_lt_of_le HS0.out.2 (HS1.out.trans hS3).1.size)))
  clear hB3 hS3 HB1 HS1 HS0 HB HS HL HK
  iterate 2
    refine wpLing_still ?_ (fun w' hG K hK => ?_) (fun K hK => ?_)
    rotate_left
    · unfold mvVal
      go_simp
      try exact hK
    go_simp
    refine hK _ ?_
    clear hK K
  refine wpLing_nil ?_
  go_wp2_with fail
  go_ret
  exact ⟨rfl, HE.out.1, HE.out.2⟩

set_option maxRecDepth 100000 in
set_option maxHeartbeats 4000000 in
theorem do_sync (N base b r : Nat) (M : MD) (nm to : ByteArray) (aB : Option Addr) (lB cB : Nat) (n cap : Int) (aF : Option Addr) (lF cF : Nat) (cr : Int) (dn : Bool) (aK : Option Addr) (lK cK : Nat) (w : World)
    (h : Both (· < N) w base b r M M) (hl : Lim M) (hz : nm.size ≤ 1000000) (hz2 : to.size ≤ 1000000) :
    Calls Try.prog 8 #[theDisk b, theRef r, actV 3 nm to (.slice aB lB cB) n cap (.slice aF lF cF) cr dn (.slice aK lK cK)] w fun e w' => e = .returned (.bool true) ∧
      Both (· < N) w' base b r (M.act (opSync nm.data.toList)).2 (M.act (opSync nm.data.toList)).2 ∧ Stays (· < N) w w' ∧ w.heap.size < w'.heap.size := by
  have HB := Lib.hid (h.box (actO 3 nm to (.slice aB lB cB) n cap (.slice aF lF cF) cr dn (.slice aK lK cK)))
  have HS : Hid (Stays (· < N) w (w.alloc (actO 3 nm to (.slice aB lB cB) n cap (.slice aF lF cF) cr dn (.slice aK lK cK))) ∧ w.heap.size < (w.alloc (actO 3 nm to (.slice aB lB cB) n cap (.slice aF lF cF) cr dn (.slice aK lK cK))).heap.size) := Lib.hid ⟨Stays.of_turn ((Turn.refl [] w).alloc _) fun q hq => ⟨h.1 q hq, by simp⟩, by simp⟩
  have HL := Lib.hid (And.intro hl (And.intro hz hz2))
  obtain ⟨k, hk⟩ : ∃ k, k = (M.act (opSync nm.data.toList)).1 := ⟨_, rfl⟩
  have HK := Lib.hid hk
  clear h hl hz hz2 hk
  unfold actO at HB HS
  unfold theDisk theRef actV
  go_enter Try.func8, Try.ntmps8
  go_wp2_with fail
  generalize hW : w.alloc (.cells #[.int .i64 3, .string nm, .string to, .slice aB lB cB, .int .i64 n, .int .i64 cap, .slice aF lF cF, .int .i64 cr, .bool dn, .slice aK lK cK] 35) = W at *
  have hc1 : ∀ w', Stays (fun q => q < N ∨ q = w.heap.size) W.drew w' → w'.cell? ⟨w.heap.size, 1, none⟩ = some (.string nm) := fun w' hS => hS.cell (.inr rfl) (by rw [← hW]; exact box_cell rfl)
  clear hW
  have HB0 := Lib.hid (HB.out.new ((Turn.refl [] W).drewN 1))
  have HS0 : Hid (Stays (· < N) w W.drew ∧ w.heap.size < W.drew.heap.size) := Lib.hid ⟨HS.out.1.trans (Stays.drew W), HS.out.2⟩
  refine wp_region_mvg (Stays (fun q => q < N ∨ q = w.heap.size)) (Stays.refl _) (fun h k => h.trans k) [(0, 3, true), (5, 3, true), (3, 1, false), (4, 1, false), (8, 1, false), (9, 2, true)] (by kernel_rfl) (by kernel_rfl) ?_
  simp only [mvAll, mvSeg, List.drop_succ_cons, List.drop_zero, List.cons_append, List.nil_append, Nat.reduceAdd]
  iterate 6
    refine wpLing_still ?_ (fun w' hG K hK => ?_) (fun K hK => ?_)
    rotate_left
    · have hcs := And.intro hG trivial
      have hd1 := hc1 w' hG
      clear hG hcs
      unfold mvVal
      go_simp
      try exact hK
    go_simp
    refine hK _ ?_
    clear hK K
  clear hc1
  refine wpLing_call (fun K hK => ?_)
  unfold mvRun
  go_simp
  simp only [mvUpon]
  refine (code_op HB0.out (fun F h1 _ => sync_cd base b M F nm _ h1 HL.out.1 HL.out.2.1)).mono ?_
  rw [← HK.out]
  rintro e w1 ⟨rfl, hB1, hS1⟩
  refine ⟨_, rfl, ?_⟩
  go_simp
  refine hK _ _ hS1 ?_
  clear hK K
  have HB1 := Lib.hid hB1
  have HS1 := Lib.hid hS1
  clear hB1 hS1 HB0
  refine wpLing_call (fun K hK => ?_)
  unfold mvRun
  go_simp
  simp only [mvUpon]
  refine (num_eq k w1).mono ?_
  rintro e w2 ⟨rfl, rfl⟩
  refine ⟨_, rfl, ?_⟩
  go_simp
  refine hK _ _ (Stays.refl _ _) ?_
  clear hK K
  refine wpLing_call (fun K hK => ?_)
  unfold mvRun
  go_simp
  simp only [mvUpon]
  refine (ref_op HB1.out (fun F G h1 _ => ref_sync r M F G nm _ h1 HL.out.1)).mono ?_
  rw [← HK.out]
  rintro e w3 ⟨rfl, hB3, hS3⟩
  refine ⟨_, rfl, ?_⟩
  go_simp
  refine hK _ _ hS3 ?_
  clear hK K
  have HE := Lib.hid (And.intro (hB3.less (Y := (· < N)) (fun q hq => .inl hq)) (And.intro (HS0.out.1.trans ((HS1.out.trans hS3).less (Y := (· < N)) fun q hq => .inl hq)) (Nat.lt_of_lt_of_le HS0.out.2 (HS1.out.trans hS3).1.size)))
  clear hB3 hS3 HB1 HS1 HS0 HB HS HL HK
  iterate 2
    refine wpLing_still ?_ (fun w' hG K hK => ?_) (fun K hK => ?_)
    rotate_left
    · unfold mvVal
      go_simp
      try exact hK
    go_simp
    refine hK _ ?_
    clear hK K
  refine wpLing_nil ?_
  go_wp2_with fail
  go_ret
  exact ⟨rfl, HE.out.1, HE.out.2⟩

set_option maxRecDepth 100000 in
set_option maxHeartbeats 4000000 in
theorem do_cut (N base b r : Nat) (M : MD) (nm to : ByteArray) (aB : Option Addr) (lB cB : Nat) (n cap : Int) (aF : Option Addr) (lF cF : Nat) (cr : Int) (dn : Bool) (aK : Option Addr) (lK cK : Nat) (w : World)
    (h : Both (· < N) w base b r M M) (hl : Lim M) (hz : nm.size ≤ 1000000) (hz2 : to.size ≤ 1000000) :
    Calls Try.prog 8 #[theDisk b, theRef r, actV 4 nm to (.slice aB lB cB) n cap (.slice aF lF cF) cr dn (.slice aK lK cK)] w fun e w' => e = .returned (.bool true) ∧
      Both (· < N) w' base b r (M.act (opCut nm.data.toList n)).2 (M.act (opCut nm.data.toList n)).2 ∧ Stays (· < N) w w' ∧ w.heap.size < w'.heap.size := by
  have HB := Lib.hid (h.box (actO 4 nm to (.slice aB lB cB) n cap (.slice aF lF cF) cr dn (.slice aK lK cK)))
  have HS : Hid (Stays (· < N) w (w.alloc (actO 4 nm to (.slice aB lB cB) n cap (.slice aF lF cF) cr dn (.slice aK lK cK))) ∧ w.heap.size < (w.alloc (actO 4 nm to (.slice aB lB cB) n cap (.slice aF lF cF) cr dn (.slice aK lK cK))).heap.size) := Lib.hid ⟨Stays.of_turn ((Turn.refl [] w).alloc _) fun q hq => ⟨h.1 q hq, by simp⟩, by simp⟩
  have HL := Lib.hid (And.intro hl (And.intro hz hz2))
  obtain ⟨k, hk⟩ : ∃ k, k = (M.act (opCut nm.data.toList n)).1 := ⟨_, rfl⟩
  have HK := Lib.hid hk
  clear h hl hz hz2 hk
  unfold actO at HB HS
  unfold theDisk theRef actV
  go_enter Try.func8, Try.ntmps8
  go_wp2_with fail
  generalize hW : w.alloc (.cells #[.int .i64 4, .string nm, .string to, .slice aB lB cB, .int .i64 n, .int .i64 cap, .slice aF lF cF, .int .i64 cr, .bool dn, .slice aK lK cK] 35) = W at *
  have hc1 : ∀ w', Stays (fun q => q < N ∨ q = w.heap.size) W.drew w' → w'.cell? ⟨w.heap.size, 1, none⟩ = some (.string nm) := fun w' hS => hS.cell (.inr rfl) (by rw [← hW]; exact box_cell rfl)
  have hc4 : ∀ w', Stays (fun q => q < N ∨ q = w.heap.size) W.drew w' → w'.cell? ⟨w.heap.size, 4, none⟩ = some (.int .i64 n) := fun w' hS => hS.cell (.inr rfl) (by rw [← hW]; exact box_cell rfl)
  clear hW
  have HB0 := Lib.hid (HB.out.new ((Turn.refl [] W).drewN 1))
  have HS0 : Hid (Stays (· < N) w W.drew ∧ w.heap.size < W.drew.heap.size) := Lib.hid ⟨HS.out.1.trans (Stays.drew W), HS.out.2⟩
  refine wp_region_mvg (Stays (fun q => q < N ∨ q = w.heap.size)) (Stays.refl _) (fun h k => h.trans k) [(0, 5, true), (7, 5, true), (5, 1, false), (6, 1, false), (12, 1, false), (13, 2, true)] (by kernel_rfl) (by kernel_rfl) ?_
  simp only [mvAll, mvSeg, List.drop_succ_cons, List.drop_zero, List.cons_append, List.nil_append, Nat.reduceAdd]
  iterate 10
    refine wpLing_still ?_ (fun w' hG K hK => ?_) (fun K hK => ?_)
    rotate_left
    · have hcs := And.intro hG trivial
      have hd1 := hc1 w' hG
      have hd4 := hc4 w' hG
      clear hG hcs
      unfold mvVal
      go_simp
      try exact hK
    go_simp
    refine hK _ ?_
    clear hK K
  clear hc1 hc4
  refine wpLing_call (fun K hK => ?_)
  unfold mvRun
  go_simp
  simp only [mvUpon]
  refine (code_op HB0.out (fun F h1 _ => cut_cd base b M F nm n _ h1 HL.out.1 HL.out.2.1)).mono ?_
  rw [← HK.out]
  rintro e w1 ⟨rfl, hB1, hS1⟩
  refine ⟨_, rfl, ?_⟩
  go_simp
  refine hK _ _ hS1 ?_
  clear hK K
  have HB1 := Lib.hid hB1
  have HS1 := Lib.hid hS1
  clear hB1 hS1 HB0
  refine wpLing_call (fun K hK => ?_)
  unfold mvRun
  go_simp
  simp only [mvUpon]
  refine (num_eq k w1).mono ?_
  rintro e w2 ⟨rfl, rfl⟩
  refine ⟨_, rfl, ?_⟩
  go_simp
  refine hK _ _ (Stays.refl _ _) ?_
  clear hK K
  refine wpLing_call (fun K hK => ?_)
  unfold mvRun
  go_simp
  simp only [mvUpon]
  refine (ref_op HB1.out (fun F G h1 _ => ref_cut r M F G nm n _ h1 HL.out.1)).mono ?_
  rw [← HK.out]
  rintro e w3 ⟨rfl, hB3, hS3⟩
  refine ⟨_, rfl, ?_⟩
  go_simp
  refine hK _ _ hS3 ?_
  clear hK K
  have HE := Lib.hid (And.intro (hB3.less (Y := (· < N)) (fun q hq => .inl hq)) (And.intro (HS0.out.1.trans ((HS1.out.trans hS3).less (Y := (· < N)) fun q hq => .inl hq)) (Nat.lt_of_lt_of_le HS0.out.2 (HS1.out.trans hS3).1.size)))
  clear hB3 hS3 HB1 HS1 HS0 HB HS HL HK
  iterate 2
    refine wpLing_still ?_ (fun w' hG K hK => ?_) (fun K hK => ?_)
    rotate_left
    · unfold mvVal
      go_simp
      try exact hK
    go_simp
    refine hK _ ?_
    clear hK K
  refine wpLing_nil ?_
  go_wp2_with fail
  go_ret
  exact ⟨rfl, HE.out.1, HE.out.2⟩

set_option maxRecDepth 100000 in
set_option maxHeartbeats 4000000 in
theorem do_rename (N base b r : Nat) (M : MD) (nm to : ByteArray) (aB : Option Addr) (lB cB : Nat) (n cap : Int) (aF : Option Addr) (lF cF : Nat) (cr : Int) (dn : Bool) (aK : Option Addr) (lK cK : Nat) (w : World)
    (h : Both (· < N) w base b r M M) (hl : Lim M) (hz : nm.size ≤ 1000000) (hz2 : to.size ≤ 1000000) :
    Calls Try.prog 8 #[theDisk b, theRef r, actV 5 nm to (.slice aB lB cB) n cap (.slice aF lF cF) cr dn (.slice aK lK cK)] w fun e w' => e = .returned (.bool true) ∧
      Both (· < N) w' base b r (M.act (opRename nm.data.toList to.data.toList)).2 (M.act (opRename nm.data.toList to.data.toList)).2 ∧ Stays (· < N) w w' ∧ w.heap.size < w'.heap.size := by
  have HB := Lib.hid (h.box (actO 5 nm to (.slice aB lB cB) n cap (.slice aF lF cF) cr dn (.slice aK lK cK)))
  have HS : Hid (Stays (· < N) w (w.alloc (actO 5 nm to (.slice aB lB cB) n cap (.slice aF lF cF) cr dn (.slice aK lK cK))) ∧ w.heap.size < (w.alloc (actO 5 nm to (.slice aB lB cB) n cap (.slice aF lF cF) cr dn (.slice aK lK cK))).heap.size) := Lib.hid ⟨Stays.of_turn ((Turn.refl [] w).alloc _) fun q hq => ⟨h.1 q hq, by simp⟩, by simp⟩
  have HL := Lib.hid (And.intro hl (And.intro hz hz2))
  obtain ⟨k, hk⟩ : ∃ k, k = (M.act (opRename nm.data.toList to.data.toList)).1 := ⟨_, rfl⟩
  have HK := Lib.hid hk
  clear h hl hz hz2 hk
  unfold actO at HB HS
  unfold theDisk theRef actV
  go_enter Try.func8, Try.ntmps8
  go_wp2_with fail
  generalize hW : w.alloc (.cells #[.int .i64 5, .string nm, .string to, .slice aB lB cB, .int .i64 n, .int .i64 cap, .slice aF lF cF, .int .i64 cr, .bool dn, .slice aK lK cK] 35) = W at *
  have hc1 : ∀ w', Stays (fun q => q < N ∨ q = w.heap.size) W.drew w' → w'.cell? ⟨w.heap.size, 1, none⟩ = some (.string nm) := fun w' hS => hS.cell (.inr rfl) (by rw [← hW]; exact box_cell rfl)
  have hc2 : ∀ w', Stays (fun q => q < N ∨ q = w.heap.size) W.drew w' → w'.cell? ⟨w.heap.size, 2, none⟩ = some (.string to) := fun w' hS => hS.cell (.inr rfl) (by rw [← hW]; exact box_cell rfl)
  clear hW
  have HB0 := Lib.hid (HB.out.new ((Turn.refl [] W).drewN 1))
  have HS0 : Hid (Stays (· < N) w W.drew ∧ w.heap.size < W.drew.heap.size) := Lib.hid ⟨HS.out.1.trans (Stays.drew W), HS.out.2⟩
  refine wp_region_mvg (Stays (fun q => q < N ∨ q = w.heap.size)) (Stays.refl _) (fun h k => h.trans k) [(0, 5, true), (7, 5, true), (5, 1, false), (6, 1, false), (12, 1, false), (13, 2, true)] (by kernel_rfl) (by kernel_rfl) ?_
  simp only [mvAll, mvSeg, List.drop_succ_cons, List.drop_zero, List.cons_append, List.nil_append, Nat.reduceAdd]
  iterate 10
    refine wpLing_still ?_ (fun w' hG K hK => ?_) (fun K hK => ?_)
    rotate_left
    · have hcs := And.intro hG trivial
      have hd1 := hc1 w' hG
      have hd2 := hc2 w' hG
      clear hG hcs
      unfold mvVal
      go_simp
      try exact hK
    go_simp
    refine hK _ ?_
    clear hK K
  clear hc1 hc2
  refine wpLing_call (fun K hK => ?_)
  unfold mvRun
  go_simp
  simp only [mvUpon]
  refine (code_op HB0.out (fun F h1 _ => rename_cd base b M F nm to _ h1 HL.out.1 HL.out.2.1 HL.out.2.2)).mono ?_
  rw [← HK.out]
  rintro e w1 ⟨rfl, hB1, hS1⟩
  refine ⟨_, rfl, ?_⟩
  go_simp
  refine hK _ _ hS1 ?_
  clear hK K
  have HB1 := Lib.hid hB1
  have HS1 := Lib.hid hS1
  clear hB1 hS1 HB0
  refine wpLing_call (fun K hK => ?_)
  unfold mvRun
  go_simp
  simp only [mvUpon]
  refine (num_eq k w1).mono ?_
  rintro e w2 ⟨rfl, rfl⟩
  refine ⟨_, rfl, ?_⟩
  go_simp
  refine hK _ _ (Stays.refl _ _) ?_
  clear hK K
  refine wpLing_call (fun K hK => ?_)
  unfold mvRun
  go_simp
  simp only [mvUpon]
  refine (ref_op HB1.out (fun F G h1 _ => ref_rename r M F G nm to _ h1 HL.out.1 HL.out.2.2)).mono ?_
  rw [← HK.out]
  rintro e w3 ⟨rfl, hB3, hS3⟩
  refine ⟨_, rfl, ?_⟩
  go_simp
  refine hK _ _ hS3 ?_
  clear hK K
  have HE := Lib.hid (And.intro (hB3.less (Y := (· < N)) (fun q hq => .inl hq)) (And.intro (HS0.out.1.trans ((HS1.out.trans hS3).less (Y := (· < N)) fun q hq => .inl hq)) (Nat.lt_of_lt_of_le HS0.out.2 (HS1.out.trans hS3).1.size)))
  clear hB3 hS3 HB1 HS1 HS0 HB HS HL HK
  iterate 2
    refine wpLing_still ?_ (fun w' hG K hK => ?_) (fun K hK => ?_)
    rotate_left
    · unfold mvVal
      go_simp
      try exact hK
    go_simp
    refine hK _ ?_
    clear hK K
  refine wpLing_nil ?_
  go_wp2_with fail
  go_ret
  exact ⟨rfl, HE.out.1, HE.out.2⟩

set_option maxRecDepth 100000 in
set_option maxHeartbeats 4000000 in
theorem do_remove (N base b r : Nat) (M : MD) (nm to : ByteArray) (aB : Option Addr) (lB cB : Nat) (n cap : Int) (aF : Option Addr) (lF cF : Nat) (cr : Int) (dn : Bool) (aK : Option Addr) (lK cK : Nat) (w : World)
    (h : Both (· < N) w base b r M M) (hl : Lim M) (hz : nm.size ≤ 1000000) (hz2 : to.size ≤ 1000000) :
    Calls Try.prog 8 #[theDisk b, theRef r, actV 6 nm to (.slice aB lB cB) n cap (.slice aF lF cF) cr dn (.slice aK lK cK)] w fun e w' => e = .returned (.bool true) ∧
      Both (· < N) w' base b r (M.act (opRemove nm.data.toList)).2 (M.act (opRemove nm.data.toList)).2 ∧ Stays (· < N) w w' ∧ w.heap.size < w'.heap.size := by
  have HB := Lib.hid (h.box (actO 6 nm to (.slice aB lB cB) n cap (.slice aF lF cF) cr dn (.slice aK lK cK)))
  have HS : Hid (Stays (· < N) w (w.alloc (actO 6 nm to (.slice aB lB cB) n cap (.slice aF lF cF) cr dn (.slice aK lK cK))) ∧ w.heap.size < (w.alloc (actO 6 nm to (.slice aB lB cB) n cap (.slice aF lF cF) cr dn (.slice aK lK cK))).heap.size) := Lib.hid ⟨Stays.of_turn ((Turn.refl [] w).alloc _) fun q hq => ⟨h.1 q hq, by simp⟩, by simp⟩
  have HL := Lib.hid (And.intro hl (And.intro hz hz2))
  obtain ⟨k, hk⟩ : ∃ k, k = (M.act (opRemove nm.data.toList)).1 := ⟨_, rfl⟩
  have HK := Lib.hid hk
  clear h hl hz hz2 hk
  unfold actO at HB HS
  unfold theDisk theRef actV
  go_enter Try.func8, Try.ntmps8
  go_wp2_with fail
  generalize hW : w.alloc (.cells #[.int .i64 6, .string nm, .string to, .slice aB lB cB, .int .i64 n, .int .i64 cap, .slice aF lF cF, .int .i64 cr, .bool dn, .slice aK lK cK] 35) = W at *
  have hc1 : ∀ w', Stays (fun q => q < N ∨ q = w.heap.size) W.drew w' → w'.cell? ⟨w.heap.size, 1, none⟩ = some (.string nm) := fun w' hS => hS.cell (.inr rfl) (by rw [← hW]; exact box_cell rfl)
  clear hW
  have HB0 := Lib.hid (HB.out.new ((Turn.refl [] W).drewN 1))
  have HS0 : Hid (Stays (· < N) w W.drew ∧ w.heap.size < W.drew.heap.size) := Lib.hid ⟨HS.out.1.trans (Stays.drew W), HS.out.2⟩
  refine wp_region_mvg (Stays (fun q => q < N ∨ q = w.heap.size)) (Stays.refl _) (fun h k => h.trans k) [(0, 3, true), (5, 3, true), (3, 1, false), (4, 1, false), (8, 1, false), (9, 2, true)] (by kernel_rfl) (by kernel_rfl) ?_
  simp only [mvAll, mvSeg, List.drop_succ_cons, List.drop_zero, List.cons_append, List.nil_append, Nat.reduceAdd]
  iterate 6
    refine wpLing_still ?_ (fun w' hG K hK => ?_) (fun K hK => ?_)
    rotate_left
    · have hcs := And.intro hG trivial
      have hd1 := hc1 w' hG
      clear hG hcs
      unfold mvVal
      go_simp
      try exact hK
    go_simp
    refine hK _ ?_
    clear hK K
  clear hc1
  refine wpLing_call (fun K hK => ?_)
  unfold mvRun
  go_simp
  simp only [mvUpon]
  refine (code_op HB0.out (fun F h1 _ => remove_cd base b M F nm _ h1 HL.out.1 HL.out.2.1)).mono ?_
  rw [← HK.out]
  rintro e w1 ⟨rfl, hB1, hS1⟩
  refine ⟨_, rfl, ?_⟩
  go_simp
  refine hK _ _ hS1 ?_
  clear hK K
  have HB1 := Lib.hid hB1
  have HS1 := Lib.hid hS1
  clear hB1 hS1 HB0
  refine wpLing_call (fun K hK => ?_)
  unfold mvRun
  go_simp
  simp only [mvUpon]
  refine (num_eq k w1).mono ?_
  rintro e w2 ⟨rfl, rfl⟩
  refine ⟨_, rfl, ?_⟩
  go_simp
  refine hK _ _ (Stays.refl _ _) ?_
  clear hK K
  refine wpLing_call (fun K hK => ?_)
  unfold mvRun
  go_simp
  simp only [mvUpon]
  refine (ref_op HB1.out (fun F G h1 _ => ref_remove r M F G nm _ h1 HL.out.1)).mono ?_
  rw [← HK.out]
  rintro e w3 ⟨rfl, hB3, hS3⟩
  refine ⟨_, rfl, ?_⟩
  go_simp
  refine hK _ _ hS3 ?_
  clear hK K
  have HE := Lib.hid (And.intro (hB3.less (Y := (· < N)) (fun q hq => .inl hq)) (And.intro (HS0.out.1.trans ((HS1.out.trans hS3).less (Y := (· < N)) fun q hq => .inl hq)) (Nat.lt_of_lt_of_le HS0.out.2 (HS1.out.trans hS3).1.size)))
  clear hB3 hS3 HB1 HS1 HS0 HB HS HL HK
  iterate 2
    refine wpLing_still ?_ (fun w' hG K hK => ?_) (fun K hK => ?_)
    rotate_left
    · unfold mvVal
      go_simp
      try exact hK
    go_simp
    refine hK _ ?_
    clear hK K
  refine wpLing_nil ?_
  go_wp2_with fail
  go_ret
  exact ⟨rfl, HE.out.1, HE.out.2⟩

end Go.Proofs.Ytmpjjnjggiipjaa
