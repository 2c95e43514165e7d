/- An act on both disks: the calls that write. Numbers and types by name. -/
import Derived.Test.YtmpjjnjggiipjaaPr
namespace Go.Proofs.Ytmpjjnjggiipjaa
open Go.RowKit Go.Maps Go.Sort Go.WideMaps

/-- An act's value. -/
def actV (d : Int) (nm to : ByteArray) (vb : Value) (n cap : Int) (fl : Value) (cr : Int) (dn : Bool) (kp : Value) : Value :=
  .agg #[.int .i64 d, .string nm, .string to, vb, .int .i64 n, .int .i64 cap, fl, .int .i64 cr, .bool dn, kp]
def actO (d : Int) (nm to : ByteArray) (vb : Value) (n cap : Int) (fl : Value) (cr : Int) (dn : Bool) (kp : Value) : Obj :=
  .cells #[.int .i64 d, .string nm, .string to, vb, .int .i64 n, .int .i64 cap, fl, .int .i64 cr, .bool dn, kp] 35

theorem box_cell {w : World} {cs : Array Value} {t : TypeId} {j : Nat} {v : Value} (h : cs[j]? = some v) : (w.alloc (.cells cs t)).cell? ⟨w.heap.size, j, none⟩ = some v := cells_of (heap_alloc_new w (.cells cs t)) j v h

theorem num_eq (k : Int) (w : World) : Calls Try.prog 17 #[.int .i64 k] w fun e w' => e = .returned (.int .i64 k) ∧ w' = w := by
  go_enter Try.func17, Try.ntmps17
  go_wp2_with fail
  go_ret
  exact ⟨rfl, rfl⟩

set_option maxRecDepth 100000 in
set_option maxHeartbeats 4000000 in
theorem do_create (N base b r : Nat) (M : MD) (nm to : ByteArray) (aB : Option Addr) (lB cB : Nat) (n cap : Int) (aF : Option Addr) (lF cF : Nat) (cr : Int) (dn : Bool) (aK : Option Addr) (lK cK : Nat) (w : World)
    (h : Both (· < N) w base b r M M) (hl : Lim M) (hz : nm.size ≤ 1000000) (hz2 : to.size ≤ 1000000) :
    Calls Try.prog 8 #[theDisk b, theRef r, actV 0 nm to (.slice aB lB cB) n cap (.slice aF lF cF) cr dn (.slice aK lK cK)] w fun e w' => e = .returned (.bool true) ∧
      Both (· < N) w' base b r (M.act (opCreate nm.data.toList)).2 (M.act (opCreate nm.data.toList)).2 ∧ Stays (· < N) w w' ∧ w.heap.size < w'.heap.size := by
  have HB := Lib.hid (h.box (actO 0 nm to (.slice aB lB cB) n cap (.slice aF lF cF) cr dn (.slice aK lK cK)))
  have HS : Hid (Stays (· < N) w (w.alloc (actO 0 nm to (.slice aB lB cB) n cap (.slice aF lF cF) cr dn (.slice aK lK cK))) ∧ w.heap.size < (w.alloc (actO 0 nm to (.slice aB lB cB) n cap (.slice aF lF cF) cr dn (.slice aK lK cK))).heap.size) := Lib.hid ⟨Stays.of_turn ((Turn.refl [] w).alloc _) fun q hq => ⟨h.1 q hq, by simp⟩, by simp⟩
  have HL := Lib.hid (And.intro hl (And.intro hz hz2))
  obtain ⟨k, hk⟩ : ∃ k, k = (M.act (opCreate nm.data.toList)).1 := ⟨_, rfl⟩
  have HK := Lib.hid hk
  clear h hl hz hz2 hk
  unfold actO at HB HS
  unfold theDisk theRef actV
  go_enter Try.func8, Try.ntmps8
  go_wp2_with fail
  generalize hW : w.alloc (.cells #[.int .i64 0, .string nm, .string to, .slice aB lB cB, .int .i64 n, .int .i64 cap, .slice aF lF cF, .int .i64 cr, .bool dn, .slice aK lK cK] 35) = W at *
  have hc1 : ∀ w', Stays (fun q => q < N ∨ q = w.heap.size) W.drew w' → w'.cell? ⟨w.heap.size, 1, none⟩ = some (.string nm) := fun w' hS => hS.cell (.inr rfl) (by rw [← hW]; exact box_cell rfl)
  clear hW
  have HB0 := Lib.hid (HB.out.new ((Turn.refl [] W).drewN 1))
  have HS0 : Hid (Stays (· < N) w W.drew ∧ w.heap.size < W.drew.heap.size) := Lib.hid ⟨HS.out.1.trans (Stays.drew W), HS.out.2⟩
  refine wp_region_mvg (Stays (fun q => q < N ∨ q = w.heap.size)) (Stays.refl _) (fun h k => h.trans k) [(0, 3, true), (5, 3, true), (3, 1, false), (4, 1, false), (8, 1, false), (9, 2, true)] (by kernel_rfl) (by kernel_rfl) ?_
  simp only [mvAll, mvSeg, List.drop_succ_cons, List.drop_zero, List.cons_append, List.nil_append, Nat.reduceAdd]
  iterate 6
    refine wpLing_still ?_ (fun w' hG K hK => ?_) (fun K hK => ?_)
    rotate_left
    · have hcs := And.intro hG trivial
      have hd1 := hc1 w' hG
      clear hG hcs
      unfold mvVal
      go_simp
      try exact hK
    go_simp
    refine hK _ ?_
    clear hK K
  clear hc1
  refine wpLing_call (fun K hK => ?_)
  unfold mvRun
  go_simp
  simp only [mvUpon]
  refine (code_op HB0.out (fun F h1 _ => create_cd base b M F nm _ h1 HL.out.1 HL.out.2.1)).mono ?_
  rw [← HK.out]
  rintro e w1 ⟨rfl, hB1, hS1⟩
  refine ⟨_, rfl, ?_⟩
  go_simp
  refine hK _ _ hS1 ?_
  clear hK K
  have HB1 := Lib.hid hB1
  have HS1 := Lib.hid hS1
  clear hB1 hS1 HB0
  refine wpLing_call (fun K hK => ?_)
  unfold mvRun
  go_simp
  simp only [mvUpon]
  refine (num_eq k w1).mono ?_
  rintro e w2 ⟨rfl, rfl⟩
  refine ⟨_, rfl, ?_⟩
  go_simp
  refine hK _ _ (Stays.refl _ _) ?_
  clear hK K
  refine wpLing_call (fun K hK => ?_)
  unfold mvRun
  go_simp
  simp only [mvUpon]
  refine (ref_op HB1.out (fun F G h1 _ => ref_create r M F G nm _ h1 HL.out.1 HL.out.2.1)).mono ?_
  rw [← HK.out]
  rintro e w3 ⟨rfl, hB3, hS3⟩
  refine ⟨_, rfl, ?_⟩
  go_simp
  refine hK _ _ hS3 ?_
  clear hK K
  have HE := Lib.hid (And.intro (hB3.less (Y := (· < N)) (fun q hq => .inl hq)) (And.intro (HS0.out.1.trans ((HS1.out.trans hS3).less (Y := (· < N)) fun q hq => .inl hq)) (Nat.lt_of_lt_of_le HS0.out.2 (HS1.out.trans hS3).1.size)))
  clear hB3 hS3 HB1 HS1 HS0 HB HS HL HK
  iterate 2
    refine wpLing_still ?_ (fun w' hG K hK => ?_) (fun K hK => ?_)
    rotate_left
    · unfold mvVal
      go_simp
      try exact hK
    go_simp
    refine hK _ ?_
    clear hK K
  refine wpLing_nil ?_
  go_wp2_with fail
  go_ret
  exact ⟨rfl, HE.out.1, HE.out.2⟩

end Go.Proofs.Ytmpjjnjggiipjaa
