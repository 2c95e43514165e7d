/- What the laws of snapshots rest on: plain facts. Numbers and types by name. -/
import Derived.Test.YthglbmnhlnpmkaaGreatRdp
import Derived.Test.YthglbmnhlnpmkaaGreatSns
import Derived.Test.YthglbmnhlnpmkaaGreatSnq
import Derived.Test.YthglbmnhlnpmkaaGreatPr
import Derived.Test.YthglbmnhlnpmkaaGreatSpc
import Derived.Test.YthglbmnhlnpmkaaGreatDnu
import Derived.Test.YthglbmnhlnpmkaaGreatSpt
import Derived.Test.YthglbmnhlnpmkaaGreatRd
/- The block of a place in a row. Numbers and types by name. -/
namespace Go.Proofs.YthglbmnhlnpmkaaGreat
open Go.RowKit Go.Lib

theorem add_block (a : Addr) (j : Nat) : (a.add j).block = a.block := by unfold Addr.add; split <;> rfl
theorem grow_cell {w w' : World} (hg : Grow w w') {p : Addr} {v : Value} (h : w.cell? p = some v) : w'.cell? p = some v := (World.cell?_of_block (hg.block _ (World.block_lt_of_cell? w _ h))).trans h
theorem reads_low {w : World} {v : Value} {xs : List Value} (h : Reads w v xs) (hne : xs ≠ []) : ∀ a n c, v = .slice (some a) n c → a.block < w.heap.size := by
  intro a n c e
  obtain ⟨ao, c', e', _, _, hc⟩ := h
  rw [e] at e'
  cases e'
  cases xs with
  | nil => exact absurd rfl hne
  | cons x xs =>
    have := World.block_lt_of_cell? w _ (hc a rfl 0 x rfl)
    rwa [add_block] at this

end Go.Proofs.YthglbmnhlnpmkaaGreat

/- The code's Save, walked. Numbers and types by name. -/
namespace Go.Proofs.YthglbmnhlnpmkaaGreat
open Go.RowKit Go.Lib Go.Maps Go.Sort Go.WideMaps
set_option maxRecDepth 100000

set_option maxHeartbeats 4000000 in
theorem save_cd (base b : Nat) (M : MD) (F : List Nat) (v : Value) (n : Nat) (L : List Prm) (w : World) (h : CD w base b M F) (hr : Prr w v n L) (hb : bulkP L ≤ 3000) {K J j : Nat} (hw : Well K M j) (hj : j + 5 ≤ J) (hR : Room K J) (hK : (bytesT L).length ≤ K) :
    Calls Tryz.prog 14 #[theDisk b, v] w (Left fun k w' => k = (saveT M L).1 ∧ Next w w' base b (saveT M L).2 F) := by
  obtain ⟨ao, c, rfl⟩ := hr.shape
  have HE := tenc_own _ n L w hr (by omega)
  have hlen := bytesT_length hb
  have hmf := hmf
  have HN := Lib.hid (And.intro h (And.intro hw (And.intro hj (And.intro hR (And.intro hK hlen)))))
  unfold saveT
  unfold ToldB errT at HE
  unfold theDisk
  clear h hr hb hw hj hR hK hlen
  by_cases hRi : Rise L
  rotate_left
  · rw [if_neg hRi] at HE ⊢
    clear hRi
    go_enter Tryz.func14, Tryz.ntmps14
    go_wp2_with fail
    refine HE.mono ?_
    rintro e w1 ⟨a1, m1, c1, rfl, h1, h2⟩
    have HB := Lib.hid h2
    clear h1 h2 HE
    go_wp2_with fail
    go_ret
    exact ⟨1, rfl, rfl, HN.out.1.next_new (turn_below HB.out)⟩
  · rw [if_pos hRi] at HE ⊢
    obtain ⟨x, hx⟩ : ∃ x, x = bytesT L := ⟨_, rfl⟩
    rw [← hx] at HE HN ⊢
    clear hRi hx
    go_enter Tryz.func14, Tryz.ntmps14
    go_wp2_with fail
    refine HE.mono ?_
    rintro e w1 ⟨a1, m1, c1, rfl, h1, h2⟩
    have HB := Lib.hid (And.intro h1 h2)
    obtain ⟨hs0, hs1⟩ := sav_box (w := w1) (b := b) (ao := a1) (n := m1) (c := c1)
    clear h1 h2 HE
    go_wp2_with fail
    obtain ⟨sv, hsv⟩ : ∃ sv, sv = savV b (.slice a1 m1 c1) := ⟨_, rfl⟩
    have esv : (Value.agg #[Value.pointer (some ⟨b, 0, none⟩), .slice a1 m1 c1]) = sv := by rw [hsv]; rfl
    rw [esv]
    obtain ⟨p, hp⟩ : ∃ p, p = w1.heap.size + 1 := ⟨_, rfl⟩
    obtain ⟨W, hW⟩ : ∃ W, W = (w1.alloc (.cells #[.pointer (some ⟨b, 0, none⟩), .slice a1 m1 c1] 74)).alloc (.cells #[.func (.func 29) #[sv] #[], .func (.func 30) #[sv] #[], .func (.func 31) #[sv] #[], .func (.func 32) #[sv] #[], .func (.func 33) #[sv] #[]] 75) := ⟨_, rfl⟩
    rw [← hW, ← hp]
    have hpW : W.heap[p]? = some (.cells #[.func (.func 29) #[sv] #[], .func (.func 30) #[sv] #[], .func (.func 31) #[sv] #[], .func (.func 32) #[sv] #[], .func (.func 33) #[sv] #[]] 75) := by
      rw [hW, hp]
      have e : w1.heap.size + 1 = (w1.alloc (.cells #[.pointer (some ⟨b, 0, none⟩), .slice a1 m1 c1] 74)).heap.size := by simp
      rw [e]
      exact heap_alloc_new _ _
    have tW : Turn [] w1 W := by rw [hW]; exact ((Turn.refl [] w1).alloc _).alloc _
    have t0 : Turn [] w W := (turn_below HB.out.2).trans tW
    have hFl : ∀ q ∈ F, q < w.heap.size := fun q hq => (HN.out.1.lt q hq).2
    have hpF : p ∉ F := fun hm => by have := hFl p hm; have := HB.out.2.size; omega
    have hrW : Reads W (.slice a1 m1 c1) (bv x) := HB.out.1.reads.turn tW (by simp)
    have hbF : ∀ a, (Value.slice a1 m1 c1).ownBlock = some a → a ∉ F := fun a ha hm => by have := (HB.out.1.2.lt a ha).1; have := hFl a hm; omega
    have hFW : ∀ q ∈ F, q < W.heap.size := fun q hq => Nat.lt_of_lt_of_le (hFl q hq) t0.size
    have at0 : SavAt W W base b M F x K j 0 := ⟨M, F, HN.out.1.new t0, fun q hq => .inl hq, Turn.refl _ _, HN.out.2.1, rfl, fun _ => rfl⟩
    have HX := Lib.hid (And.intro hpW (And.intro hpF (And.intro hrW (And.intro hbF (And.intro hFW t0)))))
    have HSV := Lib.hid hsv
    have HA0 := Lib.hid at0
    clear hs0 hs1 esv hsv hp hW hpW tW t0 hFl hpF hrW hbF hFW at0 hmf
    go_loopw [36] (fun i wr => ∃ k : Nat, k ≤ 5 ∧ i = .int .i64 (k : Int) ∧ Hid (SavAt W wr base b M F x K j k)) (fun i _ => 5 - (RowKit.intOf i).toNat)
    case atStart => exact ⟨0, by omega, rfl, HA0.out⟩
    case round =>
      obtain ⟨k, hk, rfl, hs⟩ := hrel
      by_cases h5 : k = 5
      · subst h5
        go_wp2_with fail
        go_ret
        obtain ⟨Mk, Fk, h1, h2, h3, h4, h6, _⟩ := hs.out
        refine ⟨0, rfl, ?_, ?_⟩
        · rw [h6]; rfl
        · rw [h6]
          exact (Next.trans h1 h2 h3 (CD.next h1)).after (HX.out.2.2.2.2.2.mono (by simp))
      · have hk4 : k ≤ 4 := by omega
        have tr : Turn F W wr := hs.out.choose_spec.choose_spec.2.2.1
        have hpr := tr.heap HX.out.1 HX.out.2.1
        have d0 := cells_of hpr 0 _ rfl
        have d1 := cells_of hpr 1 _ rfl
        have d2 := cells_of hpr 2 _ rfl
        have d3 := cells_of hpr 3 _ rfl
        have d4 := cells_of hpr 4 _ rfl
        have HC := sav_calls (ao := a1) (c := c1) (m := m1) hs.out HX.out.2.2.2.2.1 HN.out.2.2.1 HN.out.2.2.2.1 HN.out.2.2.2.2.1 (by have := HN.out.2.2.2.2.2; omega) HX.out.2.2.1 HX.out.2.2.2.1
        rw [← HSV.out] at HC
        clear tr hpr
        have hcase : k = 0 ∨ k = 1 ∨ k = 2 ∨ k = 3 ∨ k = 4 := by omega
        rcases hcase with rfl | rfl | rfl | rfl | rfl
        case' inl => replace HC := HC.1 rfl
        case' inr.inl => replace HC := HC.2.1 rfl
        case' inr.inr.inl => replace HC := HC.2.2.1 rfl
        case' inr.inr.inr.inl => replace HC := HC.2.2.2.1 rfl
        case' inr.inr.inr.inr => replace HC := HC.2.2.2.2 rfl
        all_goals
          go_wp2_with fail
          refine HC.mono ?_
          rintro e w2 ⟨k', rfl, hk'⟩
          have HK := Lib.hid hk'
          clear hk' HC d0 d1 d2 d3 d4 hs HA0
          by_cases h0 : k' = 0
          · subst h0
            have HN1 := Lib.hid (HK.out.1 rfl)
            clear HK
            go_wp2_with fail
            exact ⟨⟨_, by decide, rfl, HN1⟩, by simp [RowKit.intOf]⟩
          · have HN1 := Lib.hid (HK.out.2 h0)
            clear HK
            go_wp2_with fail
            go_ret
            exact ⟨k', rfl, HN1.out.1, HN1.out.2.after (HX.out.2.2.2.2.2.mono (by simp))⟩

end Go.Proofs.YthglbmnhlnpmkaaGreat

/- Restart of either disk beside the other. Numbers and types by name. -/
namespace Go.Proofs.YthglbmnhlnpmkaaGreat
open Go.RowKit Go.Maps Go.Sort Go.WideMaps

theorem code_restart {X : Nat → Prop} {w : World} {base b r : Nat} {M M2 : MD} (h : Both X w base b r M M2) (hl : Lim M) (cap cr : Int) (dn : Bool) (fl kp : Value) (zs ks : List Int) (hf : Reads w fl (iv zs)) (hk : Reads w kp (iv ks))
    (hfX : zs ≠ [] → ∀ a n c, fl = .slice (some a) n c → X a.block) (hkX : ks ≠ [] → ∀ a n c, kp = .slice (some a) n c → X a.block) (hz : zs.length ≤ 200) (hz2 : ks.length ≤ 200) :
    Calls Tryz.prog 11 #[theDisk b, .agg #[.int .i64 cap, fl, .int .i64 cr, .bool dn, kp]] w fun e w' => e = .returned (.tuple #[]) ∧ Both X w' base b r (M.restart cap cr dn zs ks) M2 ∧ Stays X w w' := by
  obtain ⟨h0, Fd, Fr, G, h1, h2, h3, h4⟩ := h
  refine (restart_cd base b M Fd cap cr dn fl kp zs ks w h1 hl hf hk (fun hz a n c e hm => (h3 _ hm).2.2 (hfX hz a n c e)) (fun hz a n c e hm => (h3 _ hm).2.2 (hkX hz a n c e)) (by omega) (by omega)).mono ?_
  rintro e w' ⟨rfl, hn⟩
  exact ⟨rfl, Both.code h0 h2 h3 h4 hn⟩

theorem blocks_of (X : Nat → Prop) (v : Value) (zs : List Int) (hX : zs ≠ [] → ∀ a n c, v = .slice (some a) n c → X a.block) : ∃ P : List Nat, (zs ≠ [] → ∀ a n c, v = .slice (some a) n c → a.block ∈ P) ∧ ∀ q ∈ P, X q := by
  by_cases hz : zs = []
  · exact ⟨[], fun h => absurd hz h, by simp⟩
  · by_cases hv : ∃ a n c, v = .slice (some a) n c
    · obtain ⟨a, n, c, rfl⟩ := hv
      exact ⟨[a.block], fun _ a' n' c' e => by cases e; simp, fun q hq => by simp only [List.mem_singleton] at hq; subst hq; exact hX hz a n c rfl⟩
    · exact ⟨[], fun _ a n c e => absurd ⟨a, n, c, e⟩ hv, by simp⟩

theorem ref_restart_both {X : Nat → Prop} {w : World} {base b r : Nat} {M M1 : MD} (h : Both X w base b r M1 M) (hl : Lim M) (cap cr : Int) (dn : Bool) (fl kp : Value) (zs ks : List Int) (hf : Reads w fl (iv zs)) (hk : Reads w kp (iv ks))
    (hfX : zs ≠ [] → ∀ a n c, fl = .slice (some a) n c → X a.block) (hkX : ks ≠ [] → ∀ a n c, kp = .slice (some a) n c → X a.block) :
    Calls Tryz.prog 12 #[theRef r, .agg #[.int .i64 cap, fl, .int .i64 cr, .bool dn, kp]] w fun e w' => e = .returned (.tuple #[]) ∧ Both X w' base b r M1 (M.restart cap cr dn zs ks) ∧ Stays X w w' := by
  obtain ⟨h0, Fd, Fr, G, h1, h2, h3, h4⟩ := h
  obtain ⟨P1, p1, q1⟩ := blocks_of X fl zs hfX
  obtain ⟨P2, p2, q2⟩ := blocks_of X kp ks hkX
  have hPX : ∀ q ∈ P1 ++ P2, X q := fun q hq => by
    rcases List.mem_append.1 hq with h | h
    · exact q1 q h
    · exact q2 q h
  refine (ref_restart r M Fr G cap cr dn fl kp zs ks w h2 hl hf hk (P1 ++ P2) (fun hz a n c e => List.mem_append.2 (.inl (p1 hz a n c e))) (fun hz a n c e => List.mem_append.2 (.inr (p2 hz a n c e))) (fun q hq => ⟨fun hm => h4 q hm (hPX q hq), h0 q (hPX q hq)⟩)).mono ?_
  rintro e w' ⟨rfl, hn⟩
  exact ⟨rfl, Both.refd h0 h1 h2 h3 h4 hPX hn⟩

end Go.Proofs.YthglbmnhlnpmkaaGreat

/- The code's disk alone, beside blocks that stay. Numbers and types by name. -/
namespace Go.Proofs.YthglbmnhlnpmkaaGreat
open Go.RowKit Go.Lib

/-- The code's disk; none of its blocks is one of X. -/
def SolD (X : Nat → Prop) (w : World) (base b : Nat) (M : MD) : Prop :=
  (∀ k, X k → k < w.heap.size) ∧ ∃ F, CD w base b M F ∧ ∀ k ∈ F, ¬ X k
theorem SolD.new {X : Nat → Prop} {w w' : World} {base b : Nat} {M : MD} (h : SolD X w base b M) (t : Turn [] w w') : SolD X w' base b M := by
  obtain ⟨h1, F, h2, h3⟩ := h
  exact ⟨fun k hk => Nat.lt_of_lt_of_le (h1 k hk) t.size, F, h2.new t, h3⟩
theorem SolD.less {X Y : Nat → Prop} {w : World} {base b : Nat} {M : MD} (h : SolD X w base b M) (hY : ∀ k, Y k → X k) : SolD Y w base b M := by
  obtain ⟨h1, F, h2, h3⟩ := h
  exact ⟨fun k hk => h1 k (hY k hk), F, h2, fun k hk hy => h3 k hk (hY k hy)⟩
theorem SolD.more {X Y : Nat → Prop} {w w' : World} {base b : Nat} {M : MD} (h : SolD X w base b M) (t : Turn [] w w') (hY : ∀ k, Y k → X k ∨ w.heap.size ≤ k ∧ k < w'.heap.size) : SolD Y w' base b M := by
  obtain ⟨h1, F, h2, h3⟩ := h
  refine ⟨fun k hk => ?_, F, h2.new t, fun k hk hy => ?_⟩
  · rcases hY k hk with h | h
    · exact Nat.lt_of_lt_of_le (h1 k h) t.size
    · exact h.2
  · rcases hY k hy with h | h
    · exact h3 k hk h
    · have := (h2.lt k hk).2; omega
theorem SolD.next {X : Nat → Prop} {w w' : World} {base b : Nat} {M' : MD} {F : List Nat} (h1 : ∀ k, X k → k < w.heap.size) (h3 : ∀ k ∈ F, ¬ X k) (hn : Next w w' base b M' F) : SolD X w' base b M' ∧ Stays X w w' := by
  obtain ⟨F', k1, k2, t⟩ := hn
  refine ⟨⟨fun k hk => Nat.lt_of_lt_of_le (h1 k hk) t.size, F', k1, fun k hk hx => ?_⟩, Stays.of_turn t fun k hk => ⟨h1 k hk, fun hm => h3 k hm hk⟩⟩
  rcases k2 k hk with h | h
  · exact h3 k h hx
  · have := h1 k hx; omega
theorem sol_restart {X : Nat → Prop} {w : World} {base b : Nat} {M : MD} (h : SolD X w base b M) (hl : Lim M) (cap cr : Int) (dn : Bool) :
    Calls Tryz.prog 11 #[theDisk b, .agg #[.int .i64 cap, .slice none 0 0, .int .i64 cr, .bool dn, .slice none 0 0]] w fun e w' => e = .returned (.tuple #[]) ∧ SolD X w' base b (M.restart cap cr dn [] []) ∧ Stays X w w' := by
  obtain ⟨h1, F, h2, h3⟩ := h
  refine (restart_cd base b M F cap cr dn _ _ [] [] w h2 hl (Reads.nil w) (Reads.nil w) (by simp) (by simp) (by simp) (by simp)).mono ?_
  rintro e w' ⟨rfl, hn⟩
  exact ⟨rfl, SolD.next h1 h3 hn⟩
theorem well_new (K : Nat) (cap cr : Int) (dn : Bool) (zs ks : List Int) (hc : cap ≤ 9223372036854775807) (hz : zs.length ≤ 200) (hk : ks.length ≤ 200) : Well K (MD.new cap cr dn zs ks) 0 :=
  ⟨⟨Int.le_refl _, Nat.zero_le _, Nat.zero_le _, hz, hk, hc⟩, List.Pairwise.nil⟩
theorem well_restart {K : Nat} {M : MD} {j : Nat} (h : Well K M j) {cap cr : Int} {dn : Bool} {zs ks : List Int} (hc : cap ≤ 9223372036854775807) (hz : zs.length ≤ 200) (hk : ks.length ≤ 200) : Well K (M.restart cap cr dn zs ks) (j + 1) :=
  ⟨held_restart h.held hc hz hk, rising_of_names (by show ((resE M.keep M.fs M.fs.length).map (·.1)).Pairwise (· < ·); rw [resE_names]; exact h.up.names)⟩

end Go.Proofs.YthglbmnhlnpmkaaGreat

/- TableAll, walked. Numbers and types by name. -/
namespace Go.Proofs.YthglbmnhlnpmkaaGreat
open Go.RowKit Go.Lib Go.Sort

theorem reftable_told (v : Value) (n : Nat) (L : List Prm) (w : World) (hr : Prr w v n L) (hb : bulkP L ≤ 3000) : Calls Tryz.prog 21 #[v] w (ToldT L w) :=
  (reftable_own v n L w hr hb).mono fun _ _ h => h.told

theorem same_p_true (v1 v2 : Value) (n m : Nat) (ps : List Prm) (w : World) (h1 : Prr w v1 n ps) (h2 : Prr w v2 m ps) :
    Calls Tryz.prog 18 #[v1, v2] w fun e w' => e = .returned (.bool true) ∧ ∃ k, w' = w.drewN k :=
  (same_pairs v1 v2 n m ps ps w h1 h2).mono fun e w' ⟨k, he, hw⟩ => ⟨by rw [he]; simp, k, hw⟩

end Go.Proofs.YthglbmnhlnpmkaaGreat

/- TableBack, walked. Numbers and types by name. -/
namespace Go.Proofs.YthglbmnhlnpmkaaGreat
open Go.RowKit Go.Lib Go.Sort

theorem bytesT_inj {A B : List Prm} (ha : Rise A) (hb : Rise B) (h1 : bulkP A ≤ 5000) (h2 : bulkP B ≤ 5000) : (bytesT A = bytesT B) = (A = B) := by
  refine propext ⟨fun h => ?_, fun h => by rw [h]⟩
  unfold bytesT at h
  rw [if_pos ha, if_pos hb] at h
  have e1 := unP_frm ha (by omega)
  have e2 := unP_frm hb (by omega)
  rw [h, e2] at e1
  exact (Option.some.inj e1).symm
theorem listF_T {A : List Prm} (ha : Rise A) (h1 : bulkP A ≤ 5000) : listF (bytesT A) = A ∧ errF (bytesT A) = 0 ∧ errT A = 0 := by
  unfold listF errF errT bytesT
  rw [if_pos ha, unP_frm ha (by omega)]
  simp [ha]

/-- What Pairs tells, in any later world. -/
theorem same_pairs_at (v1 v2 : Value) (n m : Nat) (ps qs : List Prm) (b : Bool) (hb : b = decide (ps = qs)) (w w' : World) (h1 : Prr w v1 n ps) (h2 : Prr w v2 m qs) (hg : Grow w w') :
    Calls Tryz.prog 18 #[v1, v2] w' fun e w'' => e = .returned (.bool b) ∧ Grow w' w'' := by
  refine (same_pairs v1 v2 n m ps qs w' (h1.later hg) (h2.later hg)).mono ?_
  rintro e w'' ⟨k, rfl, rfl⟩
  exact ⟨by rw [hb], below_drewN (Below.refl _ w') k⟩

end Go.Proofs.YthglbmnhlnpmkaaGreat

namespace Go.Proofs.YthglbmnhlnpmkaaGreat
open Go.RowKit Go.Lib

/-- A right map's bytes are read back. -/
theorem load_saved {M : MD} {A : List Prm} (hR : Rise A) (hb : bulkP A ≤ 3000) (hd : M.dw = false) {s : Nat} (hf : M.fs.find? (isName snapK) = some (snapK, bytesT A, s)) : loadL M = A ∧ loadE M = 0 := by
  obtain ⟨h1, h2, _⟩ := listF_T hR (by omega)
  unfold loadL loadE
  rw [load_snap hd hf]
  exact ⟨h1, h2⟩
theorem save_right {M : MD} {A : List Prm} (hR : Rise A) : saveT M A = saveP M (bytesT A) := by
  unfold saveT
  rw [if_pos hR]
theorem bytesT_pos {A : List Prm} (hR : Rise A) : 8 ≤ (bytesT A).length := by
  unfold bytesT
  rw [if_pos hR, frm_length]
  omega
theorem still_new (cap : Int) : Still8 (MD.new cap 0 false [] []) := ⟨rfl, Int.le_refl _, rfl⟩
theorem find_one (k b : List UInt8) (s : Nat) (fs : List Ent) : ((k, b, s) :: fs).find? (isName k) = some (k, b, s) := by
  have h : isName k ((k, b, s) : Ent) = true := isName_iff.2 rfl
  rw [List.find?_cons_of_pos h]

/-- SnapFalls. -/
theorem falls_plain {A B : List Prm} (hA : Rise A) (hB : Rise B) (ha : bulkP A ≤ 3000) (hb : bulkP B ≤ 3000) (c1 c2 : Int) (h1 : c1 = (((bytesT A).length + (bytesT B).length : Nat) : Int) - 1) (h2 : c2 = (((bytesT A).length + (bytesT B).length : Nat) : Int)) (M0 M1 M2 M3 M4 : MD) (k0 k1 k2 : Int)
    (e0 : M0 = MD.new c1 0 false [] []) (e1 : saveT M0 A = (k0, M1)) (e2 : saveT M1 B = (k1, M2)) (e3 : M3 = M2.restart c2 0 false [] []) (e4 : saveT M3 B = (k2, M4)) :
    k0 = 0 ∧ k1 = 5 ∧ loadL M2 = A ∧ loadE M2 = 0 ∧ k2 = 0 ∧ loadL M4 = B ∧ loadE M4 = 0 := by
  have pa := bytesT_pos hA
  have pb := bytesT_pos hB
  rw [save_right hA] at e1
  rw [save_right hB] at e2 e4
  have s1 := save_fits (M := M0) (by rw [e0]; exact still_new c1) (pre := []) (.inl rfl) (by rw [e0]; rfl) (bytesT A) (by rw [e0]; show ¬ c1 < _; simp [tot]; omega)
  rw [s1] at e1
  obtain ⟨rfl, rfl⟩ := Prod.mk.inj e1
  have t1 : Still8 { M0 with n := M0.n + 1 + 1 + 1 + 1, fs := [(snapK, bytesT A, (bytesT A).length)] } := by rw [e0]; exact ⟨rfl, by show (0 : Int) ≤ 0 + 1 + 1 + 1 + 1; omega, rfl⟩
  have s2 := save_full t1 rfl (bytesT B) (by rw [e0]; show c1 < _; omega)
  rw [s2] at e2
  obtain ⟨rfl, rfl⟩ := Prod.mk.inj e2
  have r3 := restart_two (M := _) (b := bytesT A) (show ({ M0 with n := M0.n + 1 + 1 + 1 + 1 + 1 + 1, fs := [(snapK, bytesT A, (bytesT A).length), (tmpK, [], 0)] } : MD).fs = _ from rfl) c2
  have s4 := save_again (M := M3) (by rw [e3]; exact r3.2) (by rw [e3]; exact r3.1) (bytesT B) (by rw [e3]; show ¬ c2 < _; omega)
  rw [s4] at e4
  obtain ⟨rfl, rfl⟩ := Prod.mk.inj e4
  have l2 := load_saved (M := { M0 with n := M0.n + 1 + 1 + 1 + 1 + 1 + 1, fs := [(snapK, bytesT A, (bytesT A).length), (tmpK, [], 0)] }) hA ha (by rw [e0]; rfl) (find_one _ _ _ _)
  have l4 := load_saved (M := { M3 with n := M3.n + 1 + 1 + 1 + 1 + 1, fs := [(snapK, bytesT B, (bytesT B).length)] }) hB hb (by rw [e3]; rfl) (find_one _ _ _ _)
  exact ⟨rfl, rfl, l2.1, l2.2, rfl, l4.1, l4.2⟩

/-- SnapKeeps. -/
theorem keeps_plain {A B : List Prm} (hA : Rise A) (hB : Rise B) (ha : bulkP A ≤ 3000) (hb : bulkP B ≤ 3000) (cr : Int) (dn : Bool) (fl : Int) (kp : List Int) (hcr : 5 ≤ cr) (hfl : 5 ≤ fl) :
    (saveT (MD.new 100000 cr dn [fl] kp) A).1 = 0 ∧ loadE ((saveT (saveT (MD.new 100000 cr dn [fl] kp) A).2 B).2.restart 100000 0 false [] []) = 0 ∧
      ((saveT (saveT (MD.new 100000 cr dn [fl] kp) A).2 B).1 = 0 → loadL ((saveT (saveT (MD.new 100000 cr dn [fl] kp) A).2 B).2.restart 100000 0 false [] []) = B) ∧
      (loadL ((saveT (saveT (MD.new 100000 cr dn [fl] kp) A).2 B).2.restart 100000 0 false [] []) = A ∨ loadL ((saveT (saveT (MD.new 100000 cr dn [fl] kp) A).2 B).2.restart 100000 0 false [] []) = B) := by
  rw [save_right hA, save_right hB]
  have h := keeps_two (M := MD.new 100000 cr dn [fl] kp) rfl rfl (fun i h1 h2 => by
    have h1' : (0 : Int) < i := h1
    have h2' : i ≤ 0 + 4 := h2
    refine ⟨fun e => ?_, ?_⟩
    · have : i = cr := e
      omega
    · show [fl].contains i = false
      simp
      omega) (bytesT A) (bytesT B) (by show ¬ (100000 : Int) < _; have := bytesT_length ha; omega) 100000
  obtain ⟨h1, h2, h3⟩ := h
  obtain ⟨a1, a2, _⟩ := listF_T hA (by omega)
  obtain ⟨b1, b2, _⟩ := listF_T hB (by omega)
  have LA : ∀ M : MD, loadP M = (bytesT A, 0) → loadL M = A ∧ loadE M = 0 := fun M e => by unfold loadL loadE; rw [e]; exact ⟨a1, a2⟩
  have LB : ∀ M : MD, loadP M = (bytesT B, 0) → loadL M = B ∧ loadE M = 0 := fun M e => by unfold loadL loadE; rw [e]; exact ⟨b1, b2⟩
  exact ⟨h1, h3.elim (fun e => (LA _ e).2) (fun e => (LB _ e).2), fun e => (LB _ (h2 e)).1, h3.elim (fun e => .inl (LA _ e).1) (fun e => .inr (LB _ e).1)⟩

/-- SnapOther: a disk with bytes as its snapshot. -/
theorem other_plain (x : List UInt8) (hx : x.length ≤ 3000) (L : List Prm) (hb : bulkP L ≤ 3000) (M0 M1 M2 M3 : MD) (k1 k2 : Int) (e0 : M0 = MD.new 100000 0 false [] []) (e1 : M0.act (opCreate snapK) = (k1, M1)) (e2 : M1.act (opAppend snapK x) = (k2, M2)) :
    loadL M2 = listF x ∧ loadE M2 = errF x ∧ (saveT M2 L).1 = errT L := by
  have s0 : Still8 M0 := by rw [e0]; exact still_new _
  rw [s0.act] at e1
  have c1 : opCreate snapK M0.cap M0.fs = (0, [(snapK, [], 0)]) := by rw [e0]; rfl
  rw [c1] at e1
  obtain ⟨rfl, rfl⟩ := Prod.mk.inj e1
  have s1 := s0.next [(snapK, [], 0)]
  rw [s1.act] at e2
  have c2 : opAppend snapK x M0.cap [(snapK, [], 0)] = (0, [(snapK, x, 0)]) := by
    unfold opAppend
    simp only [List.find?_cons, snap_is]
    rw [if_neg (by rw [e0]; show ¬ (100000 : Int) < _; simp [tot]; omega)]
    simp [updE, snap_is]
  have e2' : ((opAppend snapK x M0.cap [(snapK, [], 0)]).1, ({ M0 with n := M0.n + 1 + 1, fs := (opAppend snapK x M0.cap [(snapK, [], 0)]).2 } : MD)) = (k2, M2) := e2
  rw [c2] at e2'
  obtain ⟨rfl, rfl⟩ := Prod.mk.inj e2'
  have s2 : Still8 { M0 with n := M0.n + 1 + 1, fs := [(snapK, x, 0)] } := s1.next _
  have hl := load_snap (M := { M0 with n := M0.n + 1 + 1, fs := [(snapK, x, 0)] }) s2.dw (find_one snapK x 0 [])
  refine ⟨?_, ?_, ?_⟩
  · unfold loadL; rw [hl]; rfl
  · unfold loadE; rw [hl]; rfl
  · unfold saveT errT
    split
    · rw [save_fits s2 (.inr ⟨x, 0, rfl⟩) rfl (bytesT L) (by show ¬ M0.cap < _; rw [e0]; show ¬ (100000 : Int) < _; have := bytesT_length hb; simp [tot]; omega)]
    · rfl

end Go.Proofs.YthglbmnhlnpmkaaGreat
