/- The code's log: what each call does. Numbers and types by name. -/
import Derived.Test.YthcdkggkoanjpaaGreatDoorGen
import Derived.Test.YthcdkggkoanjpaaGreatDoorCop
import Derived.Test.YthcdkggkoanjpaaGreatDoorRrp
import Derived.Test.YthcdkggkoanjpaaGreatDoorWft
import Derived.Lib.LaidTab
import Derived.Lib.AppendZerosOnto
import Derived.Lib.SliceRun
import Derived.WalkMore
import Derived.Test.YthcdkggkoanjpaaGreatDoorSm
import Derived.Test.YthcdkggkoanjpaaGreatDoorCuf
namespace Go.Proofs.YthcdkggkoanjpaaGreatDoor
open Go.RowKit Go.Lib
def ObsB (w : World) (lo hi : Nat) (v : Value) (n : Nat) (LL : List (List Opm)) : Prop :=
  n = LL.length ∧ n ≤ maxLen ∧ ∃ vs : List Value, Reads w v vs ∧ vs.length = n ∧ OpVals w vs LL ∧ (∀ a n c, v = .slice (some a) n c → lo ≤ a.block ∧ a.block < hi) ∧ ∀ u ∈ vs, ∀ a n c, u = .slice (some a) n c → lo ≤ a.block ∧ a.block < hi
theorem ObsB.obs {w : World} {lo hi : Nat} {v : Value} {n : Nat} {LL : List (List Opm)} (h : ObsB w lo hi v n LL) : Obs w v n LL := by
  obtain ⟨h1, h2, vs, h3, h4, h5, _⟩ := h
  exact ⟨h1, h2, vs, h3, h4, h5⟩
theorem ObsF.between {w : World} {base : Nat} {v : Value} {n : Nat} {LL : List (List Opm)} (h : ObsF w base v n LL) : ObsB w base w.heap.size v n LL := by
  obtain ⟨h1, h2, vs, h3, h4, h5⟩ := h
  have hl : vs.length = n := by have := h3.1; omega
  refine ⟨h1, h2, vs, Reads.own (by rw [hl]; exact h3), hl, h4, fun a n c e => ?_, fun u hu a n c e => ⟨(h5 u hu a n c e).1, (h5 u hu a n c e).2.1⟩⟩
  have hown : v.ownBlock = some a.block := by rw [e]; rfl
  exact h3.lt _ hown
theorem Cells.turn {w w' : World} {v : Value} {size n : Nat} {xs : List Value} {H : List Nat} (h : Cells w v size n xs) (t : Turn H w w') (hH : ∀ a n c, v = .slice (some a) n c → a.block ∉ H) : Cells w' v size n xs := by
  obtain ⟨ao, cap, rfl, h0, h1, h2, h3⟩ := h
  refine ⟨ao, cap, rfl, h0, h1, h2, fun a ha j u hj => ?_⟩
  have hc := h3 a ha j u hj
  rw [World.cell?_of_block (t.block _ (World.block_lt_of_cell? w _ hc) (by rw [add_block]; exact hH a _ _ (by rw [ha])))]
  exact hc
theorem ObsB.turn {w w' : World} {lo hi : Nat} {v : Value} {n : Nat} {LL : List (List Opm)} {H : List Nat} (h : ObsB w lo hi v n LL) (t : Turn H w w') (hH : ∀ k ∈ H, k < lo ∨ hi ≤ k) : ObsB w' lo hi v n LL := by
  obtain ⟨h1, h2, vs, h3, h4, h5, h6, h7⟩ := h
  refine ⟨h1, h2, vs, ?_, h4, ⟨h5.1, fun j L hj => ?_⟩, h6, h7⟩
  · obtain ⟨ao, c, e, g0, g1, g2⟩ := h3
    refine ⟨ao, c, e, g0, g1, fun a ha j u hj => ?_⟩
    have hc := g2 a ha j u hj
    refine (World.cell?_of_block (t.block _ (World.block_lt_of_cell? w _ hc) fun hm => ?_)).trans hc
    rw [add_block] at hm
    have := h6 a _ _ (by rw [e, ha])
    have := hH _ hm
    omega
  · obtain ⟨ao, c, e1, e2⟩ := h5.2 j L hj
    refine ⟨ao, c, e1, e2.1, e2.2.1, e2.2.2.1.turn t fun a n c e hm => ?_, e2.2.2.2⟩
    have := h7 _ (List.mem_of_getElem? e1) a n c e
    have := hH _ hm
    omega
end Go.Proofs.YthcdkggkoanjpaaGreatDoor
namespace Go.Proofs.YthcdkggkoanjpaaGreatDoor
open Go.RowKit Go.Lib
def CO (w : World) (b q n : Nat) (s : Bool) : Prop := w.heap[q]? = some (wob 120 (theDisk b) n s)
def CV (w : World) (base b q : Nat) (M : MD) (n : Nat) (s : Bool) (F : List Nat) : Prop :=
  CD w base b M F ∧ q ∉ F ∧ CO w b q n s
def CVNext (w w' : World) (base b q : Nat) (M' : MD) (n' : Nat) (s' : Bool) (F : List Nat) : Prop :=
  ∃ F', CV w' base b q M' n' s' F' ∧ (∀ k ∈ F', k ∈ F ∨ w.heap.size ≤ k) ∧ Turn (q :: F) w w'
theorem CV.lt {w : World} {base b q : Nat} {M : MD} {n : Nat} {s : Bool} {F : List Nat} (h : CV w base b q M n s F) : q < w.heap.size := lt_of h.2.2
theorem CV.keep {w w' : World} {base b q : Nat} {M : MD} {n : Nat} {s : Bool} {F H : List Nat} (h : CV w base b q M n s F) (t : Turn H w w') (hq : q ∉ H) (hF : ∀ k ∈ F, k ∉ H) : CV w' base b q M n s F :=
  ⟨h.1.keep t hF, h.2.1, t.heap h.2.2 hq⟩
theorem CV.new {w w' : World} {base b q : Nat} {M : MD} {n : Nat} {s : Bool} {F : List Nat} (h : CV w base b q M n s F) (t : Turn [] w w') : CV w' base b q M n s F := h.keep t (by simp) (by simp)
theorem CV.next {w w' : World} {base b q : Nat} {M : MD} {n : Nat} {s : Bool} {F : List Nat} (h : CV w' base b q M n s F) (t : Turn (q :: F) w w') : CVNext w w' base b q M n s F :=
  ⟨F, h, fun _ hk => .inl hk, t⟩
theorem CV.disk {w w' : World} {base b q : Nat} {M M' : MD} {n : Nat} {s : Bool} {F : List Nat} (h : CV w base b q M n s F) (hn : Next w w' base b M' F) : CVNext w w' base b q M' n s F := by
  obtain ⟨F', h1, h2, t⟩ := hn
  have hq := h.lt
  refine ⟨F', ⟨h1, fun hm => ?_, t.heap h.2.2 h.2.1⟩, h2, t.mono fun x hx => List.mem_cons_of_mem _ hx⟩
  rcases h2 q hm with h' | h'
  · exact h.2.1 h'
  · omega
theorem CVNext.then' {w w1 w' : World} {base b q : Nat} {M1 M' : MD} {n1 n' : Nat} {s1 s' : Bool} {F F1 : List Nat} (h1 : CV w1 base b q M1 n1 s1 F1) (h2 : ∀ k ∈ F1, k ∈ F ∨ w.heap.size ≤ k) (h4 : Turn (q :: F) w w1) (k : CVNext w1 w' base b q M' n' s' F1) : CVNext w w' base b q M' n' s' F := by
  obtain ⟨F', k1, k2, k4⟩ := k
  have hs := h4.size
  refine ⟨F', k1, fun x hx => ?_, h4.trans' k4 fun x hx => ?_⟩
  · rcases k2 x hx with h' | h'
    · exact h2 x h'
    · exact .inr (by omega)
  · rcases List.mem_cons.1 hx with rfl | hx
    · exact .inl (by simp)
    · rcases h2 x hx with h' | h'
      · exact .inl (List.mem_cons_of_mem _ h')
      · exact .inr h'
theorem CVNext.then {w w1 w' : World} {base b q : Nat} {M1 M' : MD} {n1 n' : Nat} {s1 s' : Bool} {F : List Nat} (h : CVNext w w1 base b q M1 n1 s1 F) (k : ∀ F1, CV w1 base b q M1 n1 s1 F1 → CVNext w1 w' base b q M' n' s' F1) : CVNext w w' base b q M' n' s' F := by
  obtain ⟨F1, h1, h2, h3⟩ := h
  exact CVNext.then' h1 h2 h3 (k F1 h1)
theorem CVNext.after {w w1 w' : World} {base b q : Nat} {M' : MD} {n' : Nat} {s' : Bool} {F : List Nat} (t : Turn [] w w1) (h : CVNext w1 w' base b q M' n' s' F) : CVNext w w' base b q M' n' s' F := by
  obtain ⟨F', k1, k2, k4⟩ := h
  have hs := t.size
  exact ⟨F', k1, fun x hx => (k2 x hx).imp id (fun h => by omega), t.nil_any.trans k4⟩
theorem CV.set {w : World} {base b q : Nat} {M : MD} {n n' : Nat} {s s' : Bool} {F : List Nat} (h : CV w base b q M n s F) (j : Nat) (v : Value) (ho : (w.setCell ⟨q, j, none⟩ v).heap[q]? = some (wob 120 (theDisk b) n' s')) : CVNext w (w.setCell ⟨q, j, none⟩ v) base b q M n' s' F := by
  have t : Turn [q] w (w.setCell ⟨q, j, none⟩ v) := (Turn.refl [q] w).set (.inl (by simp)) j v
  refine CV.next ⟨h.1.keep t (fun k hk => ?_), h.2.1, ho⟩ (t.mono fun x hx => by rw [List.mem_singleton.1 hx]; simp)
  intro e; rw [List.mem_singleton.1 e] at hk; exact h.2.1 hk
theorem CV.set_n {w : World} {base b q : Nat} {M : MD} {n : Nat} {s : Bool} {F : List Nat} (h : CV w base b q M n s F) (m : Nat) : CVNext w (w.setCell ⟨q, 1, none⟩ (.int .i64 (m : Int))) base b q M m s F := h.set 1 _ (wob_n h.2.2 m)
theorem CV.set_s {w : World} {base b q : Nat} {M : MD} {n : Nat} {s : Bool} {F : List Nat} (h : CV w base b q M n s F) (c : Bool) : CVNext w (w.setCell ⟨q, 2, none⟩ (.bool c)) base b q M n c F := h.set 2 _ (wob_s h.2.2 c)
def CW (w : World) (base b q : Nat) (M : MD) (n : Nat) (s : Bool) (F : List Nat) : Prop :=
  CD w base b M F ∧ (q ∉ F ∧ Fits M n s) ∧ CO w b q n s
def CWNext (w w' : World) (base b q : Nat) (M' : MD) (n' : Nat) (s' : Bool) (F : List Nat) : Prop :=
  ∃ F', CW w' base b q M' n' s' F' ∧ (∀ k ∈ F', k ∈ F ∨ w.heap.size ≤ k) ∧ Turn (q :: F) w w'
theorem CW.v {w : World} {base b q : Nat} {M : MD} {n : Nat} {s : Bool} {F : List Nat} (h : CW w base b q M n s F) : CV w base b q M n s F := ⟨h.1, h.2.1.1, h.2.2⟩
theorem CW.fits {w : World} {base b q : Nat} {M : MD} {n : Nat} {s : Bool} {F : List Nat} (h : CW w base b q M n s F) : Fits M n s := h.2.1.2
theorem CV.w {w : World} {base b q : Nat} {M : MD} {n : Nat} {s : Bool} {F : List Nat} (h : CV w base b q M n s F) (hf : Fits M n s) : CW w base b q M n s F := ⟨h.1, ⟨h.2.1, hf⟩, h.2.2⟩
theorem CVNext.w {w w' : World} {base b q : Nat} {M : MD} {n : Nat} {s : Bool} {F : List Nat} (h : CVNext w w' base b q M n s F) (hf : Fits M n s) : CWNext w w' base b q M n s F := by
  obtain ⟨F', h1, h2, h3⟩ := h
  exact ⟨F', h1.w hf, h2, h3⟩
theorem CW.lt {w : World} {base b q : Nat} {M : MD} {n : Nat} {s : Bool} {F : List Nat} (h : CW w base b q M n s F) : q < w.heap.size := h.v.lt
theorem CW.keep {w w' : World} {base b q : Nat} {M : MD} {n : Nat} {s : Bool} {F H : List Nat} (h : CW w base b q M n s F) (t : Turn H w w') (hq : q ∉ H) (hF : ∀ k ∈ F, k ∉ H) : CW w' base b q M n s F := (h.v.keep t hq hF).w h.fits
theorem CW.new {w w' : World} {base b q : Nat} {M : MD} {n : Nat} {s : Bool} {F : List Nat} (h : CW w base b q M n s F) (t : Turn [] w w') : CW w' base b q M n s F := h.keep t (by simp) (by simp)
def COpened (w : World) (base b : Nat) (F : List Nat) (O : Opened) (e : Ending) (w' : World) : Prop :=
  (O.e ≠ 0 ∧ e = .returned (.tuple #[.pointer none, .slice none 0 0, .int .i64 O.e]) ∧ Next w w' base b O.M F) ∨
  (O.e = 0 ∧ ∃ q ao jn c lo hi F', e = .returned (.tuple #[.pointer (some ⟨q, 0, none⟩), .slice ao jn c, .int .i64 0]) ∧ CW w' base b q O.M O.n false F' ∧ (∀ k ∈ F', k ∈ F ∨ w.heap.size ≤ k) ∧ Turn F w w' ∧
    w.heap.size ≤ lo ∧ hi ≤ w'.heap.size ∧ w.heap.size ≤ q ∧ (q < lo ∨ hi ≤ q) ∧ ObsB w' lo hi (.slice ao jn c) jn O.l ∧ ∀ k ∈ F', k < lo ∨ hi ≤ k)
end Go.Proofs.YthcdkggkoanjpaaGreatDoor
namespace Go.Proofs.YthcdkggkoanjpaaGreatDoor
open Go.RowKit Go.Lib
set_option maxRecDepth 100000
theorem commitC_e (M : MD) (e : Int) (n : Nat) : (commitC M e n).e = e := by
  unfold commitC
  split
  · rename_i h; exact h.symm
  · rfl
theorem commitC_n (M : MD) (e : Int) (n : Nat) : (commitC M e n).n = n := by
  unfold commitC
  split <;> rfl
theorem wal_ready (b q : Nat) (n : Nat) (s : Bool) (w : World) (h : CO w b q n s) :
    Calls Tryz.prog 91 #[.pointer (some ⟨q, 0, none⟩)] w fun e w' => e = .returned (.int .i64 (if s = true then 8 else 0)) ∧ w = w' := by
  have c2 := wob_2 h
  clear h
  go_enter Tryz.func91, Tryz.ntmps91
  cases s with
  | true =>
    go_wp2_with fail
    go_ret
    exact ⟨rfl, rfl⟩
  | false =>
    go_wp2_with fail
    go_ret
    exact ⟨rfl, rfl⟩
theorem wal_size (b q : Nat) (n : Nat) (s : Bool) (w : World) (h : CO w b q n s) :
    Calls Tryz.prog 51 #[.pointer (some ⟨q, 0, none⟩)] w fun e w' => e = .returned (.int .i64 (n : Int)) ∧ w' = w := by
  have c1 := wob_1 h
  clear h
  go_enter Tryz.func51, Tryz.ntmps51
  go_wp2_with fail
  go_ret
  exact ⟨rfl, rfl⟩
theorem wal_sick (b q : Nat) (n : Nat) (s : Bool) (w : World) (h : CO w b q n s) :
    Calls Tryz.prog 49 #[.pointer (some ⟨q, 0, none⟩)] w fun e w' => e = .returned (.bool s) ∧ w' = w := by
  have c2 := wob_2 h
  clear h
  go_enter Tryz.func49, Tryz.ntmps49
  go_wp2_with fail
  go_ret
  exact ⟨rfl, rfl⟩
set_option maxHeartbeats 2000000 in
theorem wal_undo (base b q : Nat) (M : MD) (n : Nat) (F : List Nat) (k : Int) (d m : Nat) (w : World) (h : CV w base b q M n false F) (hl : Lim M) (hm : k ≠ 7 → (M.read logK).1.length = m + d) (hm9 : m + d ≤ 1000000000000) :
    Calls Tryz.prog 98 #[.pointer (some ⟨q, 0, none⟩), .int .i64 k, .int .i64 (d : Int)] w fun e w' => e = .returned (.tuple #[]) ∧ CVNext w w' base b q (commitC M k m).M n (commitC M k m).s F := by
  have c0 := wob_0 h.2.2
  have c2 := wob_2 h.2.2
  have f2 := wob_free h.2.2 2
  unfold theDisk at c0
  unfold commitC
  by_cases h7 : k = 7
  · subst h7
    rw [if_pos rfl]
    have HN := Lib.hid h
    clear h hl hm hm9
    go_enter Tryz.func98, Tryz.ntmps98
    go_wp2_with fail
    refine bodyPost_ret (results_none rfl _ _ _) rfl ?_
    exact ⟨rfl, HN.out.set_s true⟩
  · rw [if_neg h7]
    have hlen := hm h7
    have HR := read_cd base b M F logS w h.1 hl.fs (by decide)
    rw [logS_list] at HR
    obtain ⟨RB, hRB⟩ : ∃ RB, RB = (M.read logK).1 := ⟨_, rfl⟩
    obtain ⟨re, hre⟩ : ∃ re, re = (M.read logK).2 := ⟨_, rfl⟩
    rw [← hRB, ← hre] at HR
    rw [← hRB] at hlen
    rw [hlen] at HR
    unfold theDisk logS at HR
    have HN := Lib.hid (And.intro h (And.intro hl hm9))
    have e1 : wrap64 ((m : Nat) : Int) = (m : Int) := wrap64_id _ (by omega)
    have HE := Lib.hid e1
    have HC := fun w1 (hc : CD w1 base b M F) => cut_cd base b M F logS m w1 hc hl (by decide)
    rw [logS_list] at HC
    unfold logS Acted at HC
    obtain ⟨kc, hkc⟩ : ∃ kc, kc = (M.act (opCut logK m)).1 := ⟨_, rfl⟩
    obtain ⟨MC, hMC⟩ : ∃ MC, MC = (M.act (opCut logK m)).2 := ⟨_, rfl⟩
    rw [← hkc, ← hMC] at HC ⊢
    unfold theDisk at HC
    have HC' := Lib.hid HC
    clear h hl hm hm9 hlen hRB hre HC hkc hMC e1
    go_enter Tryz.func98, Tryz.ntmps98
    go_wp2_with fail
    refine HR.mono ?_
    rintro e w1 ⟨ao, c, rfl, _, t⟩
    have H1 := Lib.hid (And.intro (HN.out.1.new t) t)
    have c0 := wob_0 H1.out.1.2.2
    unfold theDisk at c0
    have HC := HC'.out w1 H1.out.1.1
    clear t HR c2 f2
    have e1 := HE.out
    go_wp2_with fail
    refine HC.mono ?_
    rintro e w2 ⟨k', rfl, rfl, hn⟩
    have H2 := Lib.hid ((H1.out.1.disk hn).after H1.out.2)
    have f2 := wob_free (H2.out.choose_spec.1).2.2 2
    have c2 := wob_2 (H2.out.choose_spec.1).2.2
    clear hn HC HC' c0 e1
    by_cases h0 : k' = 0
    · subst h0
      go_wp2_with fail
      go_end0
      exact ⟨rfl, H2.out.then fun F1 h1 => h1.set_s false⟩
    · go_wp2_with fail
      go_end0
      refine ⟨rfl, H2.out.then fun F1 h1 => ?_⟩
      rw [show decide (k' ≠ 0) = (k' != 0) from by simp [h0]]
      exact h1.set_s _
theorem has_append2 {M : MD} {n : Nat} (h : M.dw = false → Has M n) (l : List UInt8) : ((M.act (opAppend logK l)).1 = 0 → Has (M.act (opAppend logK l)).2 (n + l.length)) ∧ ((M.act (opAppend logK l)).1 ≠ 0 → (M.act (opAppend logK l)).1 ≠ 7 → Has (M.act (opAppend logK l)).2 n) := by
  cases hd : M.dw with
  | false => exact has_append (h hd) l
  | true =>
    have e : M.act (opAppend logK l) = (7, M) := by
      unfold MD.act
      rw [if_pos hd]
    rw [e]
    exact ⟨fun h0 => absurd (show (7 : Int) = 0 from h0) (by decide), fun _ h7 => absurd rfl h7⟩
set_option maxHeartbeats 4000000 in
theorem wal_commit_u (base b q : Nat) (M : MD) (n : Nat) (s : Bool) (F : List Nat) (v : Value) (m : Nat) (L : List Opm) (w : World) (h : CV w base b q M n s F) (hfi : s = false → M.dw = false → Has M n) (ht : Tab w) (hr : Opr w v m L) (hb : bulkO L ≤ 5000) {K J j : Nat} (hw : Well K M j) (hj : j + 2 ≤ J) (hK : RoomW K J) (hK2 : (frms (recs L)).length ≤ K) (hn : n ≤ 900000000) :
    Calls Tryz.prog 50 #[.pointer (some ⟨q, 0, none⟩), v] w (Left fun k w' => k = (commitP M n s L).e ∧ CVNext w w' base b q (commitP M n s L).M (commitP M n s L).n (commitP M n s L).s F) := by
  obtain ⟨ao, c, rfl⟩ := hr.shape
  have HRY := wal_ready b q n s w h.2.2
  have HN := Lib.hid h
  have HFI := Lib.hid hfi
  clear hfi
  unfold commitP
  cases s with
  | true =>
    rw [if_pos rfl] at HRY ⊢
    clear h hr ht
    go_enter Tryz.func50, Tryz.ntmps50
    go_wp2_with fail
    go_step3
    go_wp2_with fail
    refine HRY.mono ?_
    rintro e w1 ⟨rfl, rfl⟩
    clear HRY
    go_wp2_with fail
    go_step3
    go_wp2_with fail
    rw [Exit.noGoto_ret]
    go_ret
    exact ⟨8, rfl, rfl, HN.out.next (Turn.refl _ _)⟩
  | false =>
    rw [if_neg (by simp)] at HRY ⊢
    have HA := Lib.hid (And.intro hw (And.intro hj (And.intro hK (And.intro hK2 (And.intro hn hb)))))
    cases hok : okOps L with
    | false =>
      rw [if_pos rfl]
      have HO := batch_bad _ m L w hr hok
      clear h hr ht hw hj hK hK2 hn hb hok HA
      go_enter Tryz.func50, Tryz.ntmps50
      go_wp2_with fail
      go_step3
      go_wp2_with fail
      refine HRY.mono ?_
      rintro e w1 ⟨rfl, rfl⟩
      clear HRY
      go_wp2_with fail
      go_step3
      go_wp2_with fail
      refine HO.mono ?_
      rintro e w1 ⟨rfl, h2⟩
      have H2 := Lib.hid h2
      clear h2 HO
      go_wp2_with fail
      rw [Exit.noGoto_ret]
      go_ret
      have t2 := turn_below H2.out
      exact ⟨1, rfl, rfl, (HN.out.new t2).next t2.nil_any⟩
    | true =>
      rw [if_neg (by simp)]
      have HO := batch_any _ m L w hr ht hok hb
      clear h hr ht hw hj hK hK2 hn hb
      obtain ⟨x, hx⟩ : ∃ x, x = frms (recs L) := ⟨_, rfl⟩
      have hx2 : x.length ≤ 110000 := by rw [hx]; exact recs_frms HA.out.2.2.2.2.2
      have hxK : x.length ≤ K := by rw [hx]; exact HA.out.2.2.2.1
      rw [← hx] at HO ⊢
      clear hx hok
      unfold commitA
      have HWA := Lib.hid (well_append HA.out.1 logK x hxK)
      have HHA := has_append2 (HFI.out rfl) x
      obtain ⟨k1, hk1⟩ : ∃ k, k = (M.act (opAppend logK x)).1 := ⟨_, rfl⟩
      obtain ⟨M1, hM1⟩ : ∃ M', M' = (M.act (opAppend logK x)).2 := ⟨_, rfl⟩
      rw [← hk1, ← hM1] at HHA ⊢
      rw [← hM1] at HWA
      have HHA' := Lib.hid HHA
      have HWB := Lib.hid (well_sync HWA.out logK)
      have HHB : Hid (∀ l, Has M1 l → (M1.act (opSync logK)).1 ≠ 7 → Has (M1.act (opSync logK)).2 l) := Lib.hid fun l hl => (has_sync hl).2
      obtain ⟨k2, hk2⟩ : ∃ k, k = (M1.act (opSync logK)).1 := ⟨_, rfl⟩
      obtain ⟨M2, hM2⟩ : ∃ M', M' = (M1.act (opSync logK)).2 := ⟨_, rfl⟩
      rw [← hk2, ← hM2] at HHB ⊢
      rw [← hM2] at HWB
      have HK1 := Lib.hid hk1
      have HM1' := Lib.hid hM1
      have HK2 := Lib.hid hk2
      have HM2 := Lib.hid hM2
      clear hk1 hM1 hk2 hM2 HHA
      go_enter Tryz.func50, Tryz.ntmps50
      go_wp2_with fail
      go_step3
      go_wp2_with fail
      refine HRY.mono ?_
      rintro e w1 ⟨rfl, rfl⟩
      clear HRY
      go_wp2_with fail
      go_step3
      go_wp2_with fail
      refine HO.mono ?_
      rintro e w1 ⟨ao1, m1, c1, rfl, h1, h2⟩
      have t1 := turn_below h2
      have hm1 := h1.1
      have hCV := HN.out
      have H1 := Lib.hid (hCV.new t1)
      have c0 := wob_0 H1.out.2.2
      unfold theDisk at c0
      have HL := well_limW HA.out.2.2.1 HA.out.1 (by have := HA.out.2.1; omega)
      have HAP := append_cd base b M F logS (.slice ao1 m1 c1) x w1 H1.out.1 HL (by decide) h1.reads (by omega) (fun _ a n' c' e hm => by
        have hlt := (hCV.1.lt _ hm).2
        have hown : (Value.slice ao1 m1 c1).ownBlock = some a.block := by rw [e]; rfl
        have := (h1.2.lt _ hown).1
        omega)
      rw [logS_list] at HAP
      unfold theDisk logS Acted at HAP
      have HT1 := Lib.hid t1
      have HM1 := Lib.hid hm1
      clear h1 h2 HO t1 hm1 hCV HL
      rw [← HK1.out, ← HM1'.out] at HAP
      go_wp2_with fail
      refine HAP.mono ?_
      rintro e w2 ⟨k', rfl, rfl, hn⟩
      have H2 : Hid (CVNext w w2 base b q M1 n false F) := Lib.hid ((H1.out.disk hn).after HT1.out)
      clear hn HAP c0
      by_cases h0 : k' = 0
      · obtain ⟨F1, hCV, hr1, hr3⟩ := H2.out
        have c0 := wob_0 hCV.2.2
        unfold theDisk at c0
        have HL := well_limW HA.out.2.2.1 HWA.out (by have := HA.out.2.1; omega)
        have HAP := sync_cd base b M1 F1 logS w2 hCV.1 HL (by decide)
        rw [logS_list] at HAP
        unfold theDisk logS Acted at HAP
        rw [← HK2.out, ← HM2.out] at HAP
        have HR2' := Lib.hid (And.intro hCV (And.intro hr1 hr3))
        clear hCV HL HWA hr1 hr3
        subst h0
        go_wp2_with fail
        refine HAP.mono ?_
        rintro e w3 ⟨k', rfl, rfl, hn⟩
        have H3 : Hid (CVNext w w3 base b q M2 n false F) := Lib.hid (CVNext.then' HR2'.out.1 HR2'.out.2.1 HR2'.out.2.2 (HR2'.out.1.disk hn))
        clear hn HAP c0
        by_cases h2 : k' = 0
        · obtain ⟨F1, hCV, hr1, hr3⟩ := H3.out
          have c1 := wob_1 hCV.2.2
          have f1 := wob_free hCV.2.2 1
          clear hCV hr1 hr3 HWB
          subst h2
          go_wp2_with fail
          rw [Exit.noGoto_ret]
          go_ret
          refine ⟨0, rfl, ?_⟩
          try rw [if_pos rfl]
          try rw [if_pos rfl]
          refine ⟨rfl, H3.out.then fun F1 h1 => ?_⟩
          have := h1.set_n (n + m1)
          have hm1 := HM1.out
          have hn9 := HA.out.2.2.2.2.1
          have e : wrap64 ((n : Int) + (m1 : Int)) = ((n + m1 : Nat) : Int) := by rw [wrap64_id _ (by omega)]; omega
          rw [e]
          rw [← hm1]
          exact this
        · obtain ⟨F1, hCV, hr1, hr3⟩ := H3.out
          have HRV := Lib.hid (And.intro hCV (And.intro hr1 hr3))
          have HL := well_limW HA.out.2.2.1 HWB.out (by have := HA.out.2.1; omega)
          have HU := wal_undo base b q M2 n F1 k' m1 n w3 hCV HL (fun h7 => by have := (HHB.out _ (HHA'.out.1 (by first | rfl | trivial)) h7).read.2; rw [this, ← HM1.out]) (by have := HM1.out; have := HA.out.2.2.2.2.1; omega)
          have HKN := Lib.hid h2
          clear hCV hr1 hr3 HL HWB
          go_wp2_with fail
          refine HU.mono ?_
          rintro e w4 ⟨rfl, hn⟩
          have HN4 := Lib.hid hn
          clear hn HU h2
          go_wp2_with fail
          rw [Exit.noGoto_ret]
          go_ret
          refine ⟨k', rfl, ?_⟩
          try rw [if_pos rfl]
          try rw [if_neg HKN.out]
          refine ⟨(commitC_e _ _ _).symm, ?_⟩
          rw [commitC_n]
          exact CVNext.then' HRV.out.1 HRV.out.2.1 HRV.out.2.2 HN4.out
      · obtain ⟨F1, hCV, hr1, hr3⟩ := H2.out
        have HRV := Lib.hid (And.intro hCV (And.intro hr1 hr3))
        have HL := well_limW HA.out.2.2.1 HWA.out (by have := HA.out.2.1; omega)
        have HU := wal_undo base b q M1 n F1 k' 0 n w2 hCV HL (fun h7 => (HHA'.out.2 h0 h7).read.2) (by have := HA.out.2.2.2.2.1; omega)
        rw [Int.natCast_zero] at HU
        have HKN := Lib.hid h0
        clear hCV hr1 hr3 HL HWA HWB
        go_wp2_with fail
        refine HU.mono ?_
        rintro e w4 ⟨rfl, hn⟩
        have HN4 := Lib.hid hn
        clear hn HU h0
        go_wp2_with fail
        rw [Exit.noGoto_ret]
        go_ret
        refine ⟨k', rfl, ?_⟩
        try rw [if_neg HKN.out]
        refine ⟨(commitC_e _ _ _).symm, ?_⟩
        rw [commitC_n]
        exact CVNext.then' HRV.out.1 HRV.out.2.1 HRV.out.2.2 HN4.out
set_option maxHeartbeats 4000000 in
theorem wal_reset (base b q : Nat) (M : MD) (n : Nat) (s : Bool) (F : List Nat) (w : World) (h : CW w base b q M n s F) (hl : Lim M) :
    Calls Tryz.prog 46 #[.pointer (some ⟨q, 0, none⟩)] w (Left fun k w' => k = (resetP M n s).e ∧ CWNext w w' base b q (resetP M n s).M (resetP M n s).n (resetP M n s).s F) := by
  have HF : Hid (∀ (e : Ending) (w' : World), Left (fun k w' => k = (resetP M n s).e ∧ CVNext w w' base b q (resetP M n s).M (resetP M n s).n (resetP M n s).s F) e w' → Left (fun k w' => k = (resetP M n s).e ∧ CWNext w w' base b q (resetP M n s).M (resetP M n s).n (resetP M n s).s F) e w') := Lib.hid fun e w' hh => by
    obtain ⟨k, he, hk, hv⟩ := hh
    exact ⟨k, he, hk, hv.w (fits_reset h.fits)⟩
  refine Calls.mono ?_ HF.out
  clear HF
  have HRY := wal_ready b q n s w h.2.2
  have c0 := wob_0 h.2.2
  unfold theDisk at c0
  unfold resetP
  cases s with
  | true =>
    rw [if_pos rfl] at HRY ⊢
    have HN := Lib.hid h.v
    clear h
    go_enter Tryz.func46, Tryz.ntmps46
    go_wp2_with fail
    refine HRY.mono ?_
    rintro e w1 ⟨rfl, rfl⟩
    clear HRY
    go_wp2_with fail
    go_ret
    exact ⟨8, rfl, rfl, HN.out.next (Turn.refl _ _)⟩
  | false =>
    rw [if_neg (by simp)] at HRY ⊢
    have HC := cut_cd base b M F logS 0 w h.1 hl (by decide)
    rw [logS_list] at HC
    unfold theDisk logS at HC
    have HN := Lib.hid h.v
    obtain ⟨k, hk⟩ : ∃ k, k = (M.act (opCut logK 0)).1 := ⟨_, rfl⟩
    obtain ⟨M', hM'⟩ : ∃ M', M' = (M.act (opCut logK 0)).2 := ⟨_, rfl⟩
    unfold Acted at HC
    rw [← hk, ← hM'] at HC ⊢
    clear h hk hM'
    go_enter Tryz.func46, Tryz.ntmps46
    go_wp2_with fail
    refine HRY.mono ?_
    rintro e w1 ⟨rfl, rfl⟩
    clear HRY
    go_wp2_with fail
    refine HC.mono ?_
    rintro e w1 ⟨k', rfl, rfl, hn⟩
    have H1 := Lib.hid (HN.out.disk hn)
    have f1 := wob_free (H1.out.choose_spec.1).2.2 1
    have f2 := wob_free (H1.out.choose_spec.1).2.2 2
    have c1 := wob_1 (H1.out.choose_spec.1).2.2
    have c2 := wob_2 (H1.out.choose_spec.1).2.2
    clear hn HC c0
    by_cases h0 : k' = 0
    · subst h0
      go_wp2_with fail
      go_ret
      refine ⟨0, rfl, rfl, ?_⟩
      try rw [if_pos rfl]
      exact (H1.out.then fun F1 h1 => h1.set_n 0)
    · have HK := Lib.hid h0
      by_cases h7 : k' = 7
      · subst h7
        go_wp2_with fail
        go_ret
        refine ⟨7, rfl, rfl, ?_⟩
        try rw [if_neg HK.out]
        exact H1.out.then fun F1 h1 => h1.set_s true
      · go_wp2_with fail
        go_ret
        refine ⟨k', rfl, rfl, ?_⟩
        try rw [if_neg HK.out]
        try rw [show decide (k' = 7) = false from decide_eq_false h7]
        exact H1.out
end Go.Proofs.YthcdkggkoanjpaaGreatDoor
