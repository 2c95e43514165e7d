/- The code's store: Sick, Get, All; apply. Numbers and types by name. -/
import Derived.Test.YthcdkggkoanjpaaGreatDoorFrp
import Derived.Test.YthcdkggkoanjpaaGreatDoorGen
import Derived.Shelf.SlSortCmp.KitK
import Derived.Lib.Bytealg
import Derived.Sort.Grow
import Derived.Lib.AppendZerosOnto
import Derived.Lib.SliceRun
import Derived.Sort.Walk0
import Derived.Shelf.SlSortCmp.QuietGrown
import Derived.WalkMore
import Derived.Test.YthcdkggkoanjpaaGreatDoorSnq
import Derived.Test.YthcdkggkoanjpaaGreatDoorBtc
import Derived.Test.YthcdkggkoanjpaaGreatDoorWtc
import Derived.Test.YthcdkggkoanjpaaGreatDoorTro
namespace Go.Proofs.YthcdkggkoanjpaaGreatDoor
open Go.RowKit Go.Lib
set_option maxRecDepth 100000
def sob (p : Nat) (v : Value) (most : Int) : Obj := .cells #[.pointer (some ⟨p, 0, none⟩), v, .int .i64 most] 50
theorem sob_v {w : World} {t p : Nat} {v : Value} {most : Int} (h : w.heap[t]? = some (sob p v most)) (u : Value) : (w.setCell ⟨t, 1, none⟩ u).heap[t]? = some (sob p u most) := heap_set h 1 _
theorem sob_0 {w : World} {t p : Nat} {v : Value} {most : Int} (h : w.heap[t]? = some (sob p v most)) : w.cell? ⟨t, 0, none⟩ = some (.pointer (some ⟨p, 0, none⟩)) := cells_of h 0 _ rfl
theorem sob_1 {w : World} {t p : Nat} {v : Value} {most : Int} (h : w.heap[t]? = some (sob p v most)) : w.cell? ⟨t, 1, none⟩ = some v := cells_of h 1 _ rfl
theorem sob_2 {w : World} {t p : Nat} {v : Value} {most : Int} (h : w.heap[t]? = some (sob p v most)) : w.cell? ⟨t, 2, none⟩ = some (.int .i64 most) := cells_of h 2 _ rfl
theorem sob_free {w : World} {t p : Nat} {v : Value} {most : Int} (h : w.heap[t]? = some (sob p v most)) (j : Nat) : w.frozen? ⟨t, j, none⟩ = false := free_of h j
def gOf (L : List Prm) (v : Value) : List Nat := if L = [] then [] else v.ownBlock.toList
theorem mem_gOf {L : List Prm} {v : Value} {k : Nat} : k ∈ gOf L v ↔ L ≠ [] ∧ v.ownBlock = some k := by
  unfold gOf
  split
  · rename_i h; simp [h]
  · rename_i h; simp [h]
def RSt (w : World) (r t : Nat) (M : MD) (n : Nat) (s : Bool) (L : List Prm) (most : Int) (F G : List Nat) : Prop :=
  ∃ p v q Fw Gw, RW w r p M n s Fw Gw ∧ w.heap[t]? = some (sob p v most) ∧ Prr w v q L ∧ t ≠ p ∧ t ∉ Fw ∧ t ∉ Gw ∧
    (L ≠ [] → ∀ a, v.ownBlock = some a → a < w.heap.size ∧ a ≠ t ∧ a ≠ p ∧ a ∉ Fw) ∧ F = t :: p :: Fw ∧ G = Gw ++ gOf L v
def RStNext (w w' : World) (r t : Nat) (M' : MD) (n' : Nat) (s' : Bool) (L' : List Prm) (most : Int) (F G : List Nat) : Prop :=
  ∃ F' G', RSt w' r t M' n' s' L' most F' G' ∧ (∀ k ∈ F', k ∈ F ∨ w.heap.size ≤ k) ∧ (∀ k ∈ G', k ∈ G ∨ w.heap.size ≤ k) ∧ Turn F w w'
theorem Prr.turnO {w w' : World} {v : Value} {n : Nat} {L : List Prm} {F : List Nat} (h : Prr w v n L) (t : Turn F w w') (hF : L ≠ [] → ∀ a, v.ownBlock = some a → a ∉ F) : Prr w' v n L := by
  obtain ⟨h1, h2, ⟨ao, c, e, g0, g1, g2, g3⟩, h4⟩ := h
  refine ⟨h1, h2, ⟨ao, c, e, g0, g1, g2, fun a ha j u hj => ?_⟩, h4⟩
  have hc := g3 a ha j u hj
  have hlt := World.block_lt_of_cell? w _ hc
  rw [add_block] at hlt
  rw [World.cell?_of_block (w := w) (w' := w') (by rw [add_block]; exact t.block _ hlt (hF (by rintro rfl; cases hj) _ (by rw [e, ha]; rfl)))]
  exact hc
theorem RSt.lt {w : World} {r t : Nat} {M : MD} {n : Nat} {s : Bool} {L : List Prm} {most : Int} {F G : List Nat} (h : RSt w r t M n s L most F G) : (∀ k ∈ F, k < w.heap.size) ∧ ∀ k ∈ G, k ∉ F ∧ k < w.heap.size := by
  obtain ⟨p, v, q, Fw, Gw, h1, h2, h3, h4, h5, h6, h7, rfl, rfl⟩ := h
  have hl := h1.1.lt
  refine ⟨fun k hk => ?_, fun k hk => ?_⟩
  · rcases List.mem_cons.1 hk with rfl | hk
    · exact lt_of h2
    · rcases List.mem_cons.1 hk with rfl | hk
      · exact h1.lt
      · exact hl.1 k hk
  · rcases List.mem_append.1 hk with hk | hk
    · refine ⟨fun hm => ?_, (hl.2 k hk).2⟩
      rcases List.mem_cons.1 hm with rfl | hm
      · exact h6 hk
      · rcases List.mem_cons.1 hm with rfl | hm
        · exact h1.2.2.1 hk
        · exact (hl.2 k hk).1 hm
    · have := h7 (mem_gOf.1 hk).1 k (mem_gOf.1 hk).2
      exact ⟨fun hm => by
        rcases List.mem_cons.1 hm with rfl | hm
        · exact this.2.1 rfl
        · rcases List.mem_cons.1 hm with rfl | hm
          · exact this.2.2.1 rfl
          · exact this.2.2.2 hm, this.1⟩
theorem RSt.keep {w w' : World} {r t : Nat} {M : MD} {n : Nat} {s : Bool} {L : List Prm} {most : Int} {F G H : List Nat} (h : RSt w r t M n s L most F G) (tt : Turn H w w') (hF : ∀ k ∈ F, k ∉ H) (hG : ∀ k ∈ G, k ∉ H) : RSt w' r t M n s L most F G := by
  obtain ⟨p, v, q, Fw, Gw, h1, h2, h3, h4, h5, h6, h7, rfl, rfl⟩ := h
  exact ⟨p, v, q, Fw, Gw, h1.keep tt (hF p (by simp)) (fun k hk => hF k (by simp [hk])) (fun k hk => hG k (by simp [hk])), tt.heap h2 (hF t (by simp)), h3.turnO tt (fun hne a ha => hG a (List.mem_append_right _ (mem_gOf.2 ⟨hne, ha⟩))), h4, h5, h6,
    fun hne a ha => ⟨Nat.lt_of_lt_of_le (h7 hne a ha).1 tt.size, (h7 hne a ha).2⟩, rfl, rfl⟩
theorem RSt.new {w w' : World} {r t : Nat} {M : MD} {n : Nat} {s : Bool} {L : List Prm} {most : Int} {F G : List Nat} (h : RSt w r t M n s L most F G) (tt : Turn [] w w') : RSt w' r t M n s L most F G := h.keep tt (by simp) (by simp)
theorem RSt.disk {w : World} {r t : Nat} {M : MD} {n : Nat} {s : Bool} {L : List Prm} {most : Int} {F G : List Nat} (h : RSt w r t M n s L most F G) : ∃ Fd Gd, RD w r M Fd Gd ∧ (∀ k ∈ Fd, k ∈ F) ∧ ∀ k ∈ Gd, k ∈ G := by
  obtain ⟨p, v, q, Fw, Gw, h1, h2, h3, h4, h5, h6, h7, rfl, rfl⟩ := h
  exact ⟨Fw, Gw, h1.1, fun k hk => by simp [hk], fun k hk => by simp [hk]⟩
theorem RSt.wal {w w' : World} {r t : Nat} {M' : MD} {n' : Nat} {s' : Bool} {L : List Prm} {most : Int} {p q : Nat} {v : Value} {Fw Gw : List Nat} (h2 : w.heap[t]? = some (sob p v most)) (h3 : Prr w v q L) (h4 : t ≠ p) (h5 : t ∉ Fw) (h6 : t ∉ Gw)
    (h7 : L ≠ [] → ∀ a, v.ownBlock = some a → a < w.heap.size ∧ a ≠ t ∧ a ≠ p ∧ a ∉ Fw) (hn : RWNext w w' r p M' n' s' Fw Gw) : RStNext w w' r t M' n' s' L most (t :: p :: Fw) (Gw ++ gOf L v) := by
  obtain ⟨F', G', k1, k2, k3, k4⟩ := hn
  have htl := lt_of h2
  have htn : t ∉ p :: Fw := by simp [h4, h5]
  refine ⟨t :: p :: F', G' ++ gOf L v, ⟨p, v, q, F', G', k1, k4.heap h2 htn, h3.turnO k4 (fun hne a ha => by have := h7 hne a ha; simp [this.2.2.1, this.2.2.2]), h4, fun hm => ?_, fun hm => ?_, fun hne a ha => ?_, rfl, rfl⟩, fun k hk => ?_, fun k hk => ?_, k4.mono fun k hk => by simp at hk ⊢; exact .inr hk⟩
  · rcases k2 t hm with h | h
    · exact h5 h
    · omega
  · rcases k3 t hm with h | h
    · exact h6 h
    · omega
  · have := h7 hne a ha
    refine ⟨Nat.lt_of_lt_of_le this.1 k4.size, this.2.1, this.2.2.1, fun hm => ?_⟩
    rcases k2 a hm with h | h
    · exact this.2.2.2 h
    · omega
  · rcases List.mem_cons.1 hk with rfl | hk
    · exact .inl (by simp)
    · rcases List.mem_cons.1 hk with rfl | hk
      · exact .inl (by simp)
      · exact (k2 k hk).imp (fun h => by simp [h]) id
  · rcases List.mem_append.1 hk with hk | hk
    · exact (k3 k hk).imp (fun h => by simp [h]) id
    · exact .inl (List.mem_append_right _ hk)
theorem RStNext.cat {w w1 w' : World} {r t : Nat} {M' : MD} {n' : Nat} {s' : Bool} {L' : List Prm} {most : Int} {F G F1 G1 : List Nat} (h2 : ∀ k ∈ F1, k ∈ F ∨ w.heap.size ≤ k) (h3 : ∀ k ∈ G1, k ∈ G ∨ w.heap.size ≤ k) (h4 : Turn F w w1) (k : RStNext w1 w' r t M' n' s' L' most F1 G1) : RStNext w w' r t M' n' s' L' most F G := by
  obtain ⟨F', G', k1, k2, k3, k4⟩ := k
  have hs := h4.size
  refine ⟨F', G', k1, fun x hx => ?_, fun x hx => ?_, h4.trans' k4 h2⟩
  · rcases k2 x hx with h' | h'
    · exact h2 x h'
    · exact .inr (by omega)
  · rcases k3 x hx with h' | h'
    · exact h3 x h'
    · exact .inr (by omega)
theorem RStNext.after {w w1 w' : World} {r t : Nat} {M' : MD} {n' : Nat} {s' : Bool} {L' : List Prm} {most : Int} {F G : List Nat} (tt : Turn [] w w1) (h : RStNext w1 w' r t M' n' s' L' most F G) : RStNext w w' r t M' n' s' L' most F G := by
  obtain ⟨F', G', k1, k2, k3, k4⟩ := h
  have hs := tt.size
  exact ⟨F', G', k1, fun x hx => (k2 x hx).imp id (fun h => by omega), fun x hx => (k3 x hx).imp id (fun h => by omega), (tt.mono (by simp)).trans k4⟩
theorem RSt.set_v {w : World} {r t p q' : Nat} {M : MD} {n : Nat} {s : Bool} {L' : List Prm} {most : Int} {v u : Value} {Fw Gw : List Nat} (h1 : RW w r p M n s Fw Gw) (h2 : w.heap[t]? = some (sob p v most)) (h4 : t ≠ p) (h5 : t ∉ Fw) (h6 : t ∉ Gw)
    (hu : Prr w u q' L') (hf : L' ≠ [] → ∀ a, u.ownBlock = some a → a < w.heap.size ∧ a ≠ t ∧ a ≠ p ∧ a ∉ Fw) : RSt (w.setCell ⟨t, 1, none⟩ u) r t M n s L' most (t :: p :: Fw) (Gw ++ gOf L' u) := by
  have tt : Turn [t] w (w.setCell ⟨t, 1, none⟩ u) := (Turn.refl [t] w).set (.inl (by simp)) 1 u
  refine ⟨p, u, q', Fw, Gw, h1.keep tt (by simp; exact fun e => h4 e.symm) (fun k hk => ?_) (fun k hk => ?_), sob_v h2 u, hu.turnO tt (fun hne a ha => by simp [(hf hne a ha).2.1]), h4, h5, h6, fun hne a ha => ⟨by simpa using (hf hne a ha).1, (hf hne a ha).2⟩, rfl, rfl⟩
  · intro e; rw [List.mem_singleton.1 e] at hk; exact h5 hk
  · intro e; rw [List.mem_singleton.1 e] at hk; exact h6 hk
end Go.Proofs.YthcdkggkoanjpaaGreatDoor
namespace Go.Proofs.YthcdkggkoanjpaaGreatDoor
open Go.RowKit Go.Lib
set_option maxRecDepth 100000
def Two2 (t p : Nat) (a c : World) : Prop := t < a.heap.size → p < a.heap.size → c.heap[t]? = a.heap[t]? ∧ c.heap[p]? = a.heap[p]? ∧ a.heap.size ≤ c.heap.size
theorem Two2.refl (t p : Nat) (a : World) : Two2 t p a a := fun _ _ => ⟨rfl, rfl, Nat.le_refl _⟩
theorem Two2.trans {t p : Nat} {a b c : World} (h : Two2 t p a b) (k : Two2 t p b c) : Two2 t p a c := fun h1 h2 => by
  obtain ⟨e1, e2, e3⟩ := h h1 h2
  obtain ⟨f1, f2, f3⟩ := k (Nat.lt_of_lt_of_le h1 e3) (Nat.lt_of_lt_of_le h2 e3)
  exact ⟨f1.trans e1, f2.trans e2, Nat.le_trans e3 f3⟩
theorem checkS_save {M M1 : MD} {n : Nat} {L : List Prm} {e1 : Int} (h1 : e1 = (saveT M L).1) (h2 : M1 = (saveT M L).2) :
    checkS M n false L = if e1 ≠ 0 then ⟨e1, M1, n, false, L⟩ else ⟨(resetP M1 n false).e, (resetP M1 n false).M, (resetP M1 n false).n, (resetP M1 n false).s, L⟩ := by
  subst h1 h2
  unfold checkS
  rw [if_neg (by simp)]
set_option maxHeartbeats 4000000 in
theorem ref_scheck (r t : Nat) (M : MD) (n : Nat) (s : Bool) (L : List Prm) (most : Int) (F G : List Nat) (w : World) (h : RSt w r t M n s L most F G) (hs : Slim L) {K J j : Nat} (hw : Well K M j) (hj : j + 5 ≤ J) (hR : RoomW K J) (hK : (bytesT L).length ≤ K) :
    Calls Tryz.prog 21 #[.pointer (some ⟨t, 0, none⟩)] w (Left fun k w' => k = (checkS M n s L).e ∧ RStNext w w' r t (checkS M n s L).M (checkS M n s L).n (checkS M n s L).s L most F G) := by
  obtain ⟨p, v, q, Fw, Gw, h1, h2, h3, h4, h5, h6, h7, rfl, rfl⟩ := id h
  have HN := Lib.hid h
  have hp := h1.2.2.2
  have c0 := sob_0 h2
  have c1 := sob_1 h2
  have d0 := wob_0 hp
  have d2 := wob_2 hp
  have hne7 : ((8 : Int) == 0) = false := by decide
  unfold theRef at d0
  cases s with
  | true =>
    have eC : checkS M n true L = ⟨8, M, n, true, L⟩ := by unfold checkS; rw [if_pos rfl]
    rw [eC]
    clear h1 h2 h3 h4 h5 h6 h7 hp
    go_enter Tryz.func21, Tryz.ntmps21
    go_wp2_with fail
    go_ret
    exact ⟨8, rfl, rfl, _, _, HN.out, fun _ hk => .inl hk, fun _ hk => .inl hk, Turn.refl _ _⟩
  | false =>
  have HS := fun (w' : World) (tt : Turn [] w w') => ref_saveS r M Fw Gw v q L w' (h1.1.new tt) (h3.turnO tt (by simp)) hs hw hj hR hK
  have HW := Lib.hid (And.intro (well_saveT hw hK) (And.intro hj hR))
  have HA := Lib.hid (And.intro h1 (And.intro h2 (And.intro h3 (And.intro h4 (And.intro h5 (And.intro h6 h7))))))
  obtain ⟨e1, he1⟩ : ∃ e1, e1 = (saveT M L).1 := ⟨_, rfl⟩
  obtain ⟨M1, hM1⟩ : ∃ M1, M1 = (saveT M L).2 := ⟨_, rfl⟩
  have HE := Lib.hid (checkS_save (n := n) he1 hM1)
  rw [← he1, ← hM1] at HS
  rw [← hM1] at HW
  have u0 : ∀ w', Two2 t p w.drew w' → w'.cell? ⟨t, 0, none⟩ = some (.pointer (some ⟨p, 0, none⟩)) := fun w' hg => by
    rw [World.cell?_of_block (w := w) (w' := w') (hg (lt_of HA.out.2.1) HA.out.1.lt).1]; exact c0
  have u1 : ∀ w', Two2 t p w.drew w' → w'.cell? ⟨t, 1, none⟩ = some v := fun w' hg => by
    rw [World.cell?_of_block (w := w) (w' := w') (hg (lt_of HA.out.2.1) HA.out.1.lt).1]; exact c1
  have u2 : ∀ w', Two2 t p w.drew w' → w'.cell? ⟨p, 0, none⟩ = some (.pointer (some ⟨r, 0, none⟩)) := fun w' hg => by
    rw [World.cell?_of_block (w := w) (w' := w') (hg (lt_of HA.out.2.1) HA.out.1.lt).2.1]; exact d0
  have HSS := Lib.hid (HS w.drew ((Turn.refl [] w).drew))
  clear h1 h2 h3 h4 h5 h6 h7 hp h hs hw hj hR hK HS he1 hM1
  go_enter Tryz.func21, Tryz.ntmps21
  go_wp2_with fail
  refine wp_region_mvg (Two2 t p) (Two2.refl t p) Two2.trans [(0, 11, true), (11, 1, false), (12, 1, true)] (by kernel_rfl) (by kernel_rfl) ?_
  simp only [mvAll, mvSeg, List.drop_succ_cons, List.drop_zero, List.cons_append, List.nil_append, Nat.reduceAdd]
  iterate 11
    refine wpLing_still ?_ (fun w' hG K hK => ?_) (fun K hK => ?_)
    rotate_left
    · have v0 := u0 w' hG
      have v1 := u1 w' hG
      have v2 := u2 w' hG
      clear hG
      unfold mvVal
      go_simp
      try exact hK
    go_simp
    refine hK _ ?_
    clear hK K
  clear u0 u1 u2
  refine wpLing_call (fun K hK => ?_)
  unfold mvRun
  go_simp
  simp only [mvUpon]
  have HS := HSS.out
  unfold theRef at HS
  refine HS.mono ?_
  rintro e w1 ⟨k1, rfl, hk1, hn⟩
  subst hk1
  refine ⟨_, rfl, ?_⟩
  go_simp
  have HN1 : Hid (RStNext w w1 r t M1 n false L most (t :: p :: Fw) (Gw ++ gOf L v)) := Lib.hid ((RSt.wal (w := w.drew) HA.out.2.1 HA.out.2.2.1 HA.out.2.2.2.1 HA.out.2.2.2.2.1 HA.out.2.2.2.2.2.1 HA.out.2.2.2.2.2.2 (RW.disk (HA.out.1.keep ((Turn.refl [] w).drew) (by simp) (by simp) (by simp)) hn)).after (Turn.refl [] w).drew)
  obtain ⟨_, _, _, _, _, t1⟩ := hn
  refine hK _ _ (fun _ _ => ⟨t1.block t (lt_of HA.out.2.1) HA.out.2.2.2.2.1, t1.block p HA.out.1.lt HA.out.1.2.1, t1.size⟩) ?_
  clear hK K HS HSS t1
  refine wpLing_still ?_ (fun w' hG K hK => ?_) (fun K hK => ?_)
  rotate_left
  · unfold mvVal
    go_simp
    try exact hK
  go_simp
  refine hK _ ?_
  clear hK K
  refine wpLing_nil ?_
  by_cases he : k1 = 0
  · subst he
    obtain ⟨F1, G1, hR1, k2, k3, k4⟩ := HN1.out
    obtain ⟨p1, v1, q1, Fw1, Gw1, g1, g2, g3, g4, g5, g6, g7, eF, eG⟩ := hR1
    have b0 := sob_0 g2
    have RS1 := ref_reset r p1 M1 n false Fw1 Gw1 w1 g1 (well_limW HW.out.2.2 HW.out.1 HW.out.2.1)
    have HX := Lib.hid (And.intro g1 (And.intro g2 (And.intro g3 (And.intro g4 (And.intro g5 (And.intro g6 (And.intro g7 (And.intro eF (And.intro eG (And.intro k2 (And.intro k3 k4)))))))))))
    clear g1 g2 g3 g4 g5 g6 g7 eF eG k2 k3 k4
    go_wp2_with fail
    refine RS1.mono ?_
    rintro e w2 ⟨k, rfl, rfl, hn⟩
    have HN2 := Lib.hid hn
    clear hn RS1
    go_wp2_with fail
    go_ret
    obtain ⟨g1, g2, g3, g4, g5, g6, g7, eF, eG, k2, k3, k4⟩ := HX.out
    subst eF eG
    rw [HE.out, if_neg (by simp)]
    exact ⟨_, rfl, rfl, RStNext.cat k2 k3 k4 (RSt.wal g2 g3 g4 g5 g6 g7 HN2.out)⟩
  · go_wp2_with fail
    go_ret
    rw [HE.out, if_pos he]
    exact ⟨_, rfl, rfl, HN1.out⟩
end Go.Proofs.YthcdkggkoanjpaaGreatDoor
namespace Go.Proofs.YthcdkggkoanjpaaGreatDoor
open Go.RowKit Go.Lib
set_option maxRecDepth 100000
theorem CSt_sick {w : World} {base b x : Nat} {M : MD} {n : Nat} {s : Bool} {L : List Prm} {most : Int} {F : List Nat} (h : CSt w base b x M n s L most F) :
    Calls Tryz.prog 22 #[theSt x] w fun e w' => e = .returned (.bool s) ∧ Turn [] w w' := by
  obtain ⟨q, i, Fd, Fi, h, rfl⟩ := h
  have c1 := stob_1 h.cell
  have P := wal_sick b q n s w h.log.2.2
  clear h
  unfold theSt
  go_enter Tryz.func22, Tryz.ntmps22
  go_wp2_with fail
  refine P.mono ?_
  rintro e w1 ⟨rfl, rfl⟩
  go_wp2_with fail
  go_ret
  exact ⟨rfl, Turn.refl _ _⟩
theorem CSt_get {w : World} {base b x : Nat} {M : MD} {n : Nat} {s : Bool} {L : List Prm} {most : Int} {F : List Nat} (h : CSt w base b x M n s L most F) (hs : Slim L) (k : ByteArray) (hk : k.size ≤ 1000000) :
    Calls Tryz.prog 31 #[theSt x, .string k] w fun e w' => e = .returned (.tuple #[.string (findP L k).1, .bool (findP L k).2]) ∧ Turn [] w w' := by
  obtain ⟨q, i, Fd, Fi, h, rfl⟩ := h
  have c2 := stob_2 h.cell
  have P := ix_get h.ix (fineW_of h.rise (by have := hs.1; omega)) k hk
  unfold theIx at c2 P
  clear h hs hk
  unfold theSt
  go_enter Tryz.func31, Tryz.ntmps31
  go_wp2_with fail
  refine P.mono ?_
  rintro e w1 ⟨rfl, t⟩
  have T := Lib.hid t
  clear t P
  go_wp2_with fail
  go_ret2
  exact ⟨rfl, T.out⟩
theorem ISt_all {w : World} {x : Nat} {L : List Prm} {F : List Nat} (h : ISt w x L F) (hb : bulkP L ≤ 690000) :
    Calls Tryz.prog 26 #[theSt x] w fun e w' => ∃ ao q c, e = .returned (.slice ao q c) ∧ Prr w' (.slice ao q c) q L ∧ (∀ a, (Value.slice ao q c).ownBlock = some a → w.heap.size ≤ a) ∧ Turn [] w w' := by
  obtain ⟨b, q, i, most, Fi, h1, h2, h3, h4, rfl⟩ := h
  have c2 := stob_2 h3
  have P := ix_all2 h1 (fineW_of h2 hb)
  unfold theIx at c2 P
  clear h1 h2 h3 h4 hb
  unfold theSt
  go_enter Tryz.func26, Tryz.ntmps26
  go_wp2_with fail
  refine P.mono ?_
  rintro e w1 ⟨ao, n, c, rfl, hp, hf, t⟩
  have T := Lib.hid (And.intro hp (And.intro hf t))
  clear hp hf t P
  go_wp2_with fail
  go_ret
  exact ⟨ao, n, c, rfl, T.out.1, T.out.2.1, T.out.2.2⟩
theorem steps_next {X : List Opm} {k : Nat} {o : Opm} {L : List Prm} (h : X[k]? = some o) : (X.take (k + 1)).foldl stepP L = stepP ((X.take k).foldl stepP L) o := by
  rw [take_next h, List.foldl_append]
  rfl
set_option maxHeartbeats 4000000 in
theorem CSt_apply {w : World} {base b x : Nat} {M : MD} {n : Nat} {s : Bool} {L : List Prm} {most : Int} {F : List Nat} (h : CSt w base b x M n s L most F) (vo : Value) (m : Nat) (X : List Opm) (ho : ∀ w', Turn F w w' → Opr w' vo m X) (hb : bulkP L + bulkO X ≤ 690000) :
    Calls Tryz.prog 39 #[theSt x, vo] w fun e w' => e = .returned (.tuple #[]) ∧ SNext CSt w w' base b x M n s (X.foldl stepP L) most F := by
  have h0 := ho w (Turn.refl _ _)
  obtain ⟨ao, c, rfl⟩ := h0.shape
  have hmX := h0.1
  have hm9 := h0.2.1
  have HR := CSt_rise h
  have HN := Lib.hid (And.intro h (And.intro ho hb))
  have HM := Lib.hid (And.intro hmX (And.intro hm9 HR))
  unfold maxLen at hm9
  clear h ho hb h0 hmX HR
  unfold theSt
  go_enter Tryz.func39, Tryz.ntmps39
  go_wp2_with fail
  go_loopw [8] (fun j wr => ∃ k : Nat, k ≤ m ∧ j = .int .i64 k ∧ Hid (SNext CSt w wr base b x M n s ((X.take k).foldl stepP L) most F))
    (fun j _ => m - (RowKit.intOf j).toNat)
  case atStart => exact ⟨0, Nat.zero_le _, rfl, Lib.hid HN.out.1.next⟩
  case round =>
    obtain ⟨k, hk, rfl, hG⟩ := hrel
    by_cases hlt : k < m
    · have h3 : (k : Int) < (m : Int) := by omega
      obtain ⟨F1, hC, hF1, t1⟩ := hG.out
      obtain ⟨a, o, rfl, hO, d0, d1, d2, z1, z2⟩ := (HN.out.2.1 wr t1).at hlt
      obtain ⟨q, i, Fd, Fi, hS, rfl⟩ := hC
      have hrL := hS.rise
      have hks : o.key.size ≤ 1000000 := by
        have := bulkO_mem (List.mem_of_getElem? hO)
        have := HN.out.2.2
        omega
      have hfw : FineW ((X.take k).foldl stepP L) := fineW_of hrL (by
        have := bulkP_steps (X.take k) L
        have := bulkO_take X k
        have := HN.out.2.2
        omega)
      have HF2 := Lib.hid hS.ixlt
      obtain ⟨od, kk, vv⟩ := o
      simp only at d0 d1 d2 hks
      cases od with
      | true =>
        have tA : Turn [] wr (wr.alloc (.cells #[.bool true, .string kk, .string vv] 65)).drew := ((Turn.refl [] wr).alloc _).drew
        have hS2 := hS.keep tA (by simp)
        have hnew := heap_alloc_new wr (.cells #[.bool true, .string kk, .string vv] 65)
        have hxl : x < (wr.alloc (.cells #[.bool true, .string kk, .string vv] 65)).drew.heap.size := lt_of hS2.cell
        have hpl : wr.heap.size < (wr.alloc (.cells #[.bool true, .string kk, .string vv] 65)).drew.heap.size := lt_of hnew
        have u2 : ∀ w', Two2 x wr.heap.size (wr.alloc (.cells #[.bool true, .string kk, .string vv] 65)).drew w' → w'.cell? ⟨x, 2, none⟩ = some (theIx i) := fun w' hg => by
          rw [World.cell?_of_block (w := (wr.alloc (.cells #[.bool true, .string kk, .string vv] 65)).drew) (w' := w') (hg hxl hpl).1]; exact stob_2 hS2.cell
        have u0 : ∀ w', Two2 x wr.heap.size (wr.alloc (.cells #[.bool true, .string kk, .string vv] 65)).drew w' → w'.cell? ⟨wr.heap.size, 1, none⟩ = some (.string kk) := fun w' hg => by
          rw [World.cell?_of_block (w := (wr.alloc (.cells #[.bool true, .string kk, .string vv] 65)).drew) (w' := w') (hg hxl hpl).2.1]; exact cells_of hnew 1 _ rfl
        have u1 : ∀ w', Two2 x wr.heap.size (wr.alloc (.cells #[.bool true, .string kk, .string vv] 65)).drew w' → w'.cell? ⟨wr.heap.size, 2, none⟩ = some (.string vv) := fun w' hg => by
          rw [World.cell?_of_block (w := (wr.alloc (.cells #[.bool true, .string kk, .string vv] 65)).drew) (w' := w') (hg hxl hpl).2.1]; exact cells_of hnew 2 _ rfl
        have PC := ix_del hS2.ix hfw kk hks
        unfold theIx at u2 PC
        have HP := Lib.hid PC
        have HS2 := Lib.hid (And.intro hS2 (And.intro (And.intro hF1 (t1.trans tA.nil_any)) (And.intro hxl hpl)))
        have HO := Lib.hid (And.intro hO hrL)
        clear hS hS2 hF1 t1 tA hnew hxl hpl PC hO hrL hfw hks hG z1 z2
        go_wp2_with fail
        clear d0 d1 d2
        refine wp_region_mvg (Two2 x wr.heap.size) (Two2.refl x wr.heap.size) Two2.trans [(0, 6, true), (6, 1, false)] (by kernel_rfl) (by kernel_rfl) ?_
        simp only [mvAll, mvSeg, List.drop_succ_cons, List.drop_zero, List.cons_append, List.nil_append, Nat.reduceAdd]
        iterate 6
          refine wpLing_still ?_ (fun w' hG K hK => ?_) (fun K hK => ?_)
          rotate_left
          · have v0 := u0 w' hG
            have v1 := u1 w' hG
            have v2 := u2 w' hG
            clear hG
            unfold mvVal
            go_simp
            try exact hK
          go_simp
          refine hK _ ?_
          clear hK K
        refine wpLing_call (fun K hK => ?_)
        unfold mvRun
        go_simp
        simp only [mvUpon]
        refine HP.out.mono ?_
        rintro e w2 ⟨rfl, hn⟩
        refine ⟨_, rfl, ?_⟩
        go_simp
        have HQ : Hid (SNext CSt w w2 base b x M n s ((X.take (k + 1)).foldl stepP L) most F) := Lib.hid (by
          rw [steps_next HO.out.1]
          exact SNext.cat HS2.out.2.1.1 HS2.out.2.1.2 (HS2.out.1.ix_next hn (rise_step HO.out.2 ⟨true, kk, vv⟩)))
        refine hK _ _ (fun _ _ => ?_) ?_
        · obtain ⟨_, _, _, t2⟩ := hn
          exact ⟨t2.block x HS2.out.2.2.1 HS2.out.1.xi, t2.block _ HS2.out.2.2.2 (fun hm => by have := HF2.out _ hm; omega), t2.size⟩
        clear hK K u0 u1 u2 HP hn
        refine wpLing_nil ?_
        go_wp2_with fail
        exact ⟨⟨k + 1, by omega, by go_num, HQ⟩, by simp [RowKit.intOf]; omega⟩
      | false =>
        have tA : Turn [] wr (wr.alloc (.cells #[.bool false, .string kk, .string vv] 65)).drew := ((Turn.refl [] wr).alloc _).drew
        have hS2 := hS.keep tA (by simp)
        have hnew := heap_alloc_new wr (.cells #[.bool false, .string kk, .string vv] 65)
        have hxl : x < (wr.alloc (.cells #[.bool false, .string kk, .string vv] 65)).drew.heap.size := lt_of hS2.cell
        have hpl : wr.heap.size < (wr.alloc (.cells #[.bool false, .string kk, .string vv] 65)).drew.heap.size := lt_of hnew
        have u2 : ∀ w', Two2 x wr.heap.size (wr.alloc (.cells #[.bool false, .string kk, .string vv] 65)).drew w' → w'.cell? ⟨x, 2, none⟩ = some (theIx i) := fun w' hg => by
          rw [World.cell?_of_block (w := (wr.alloc (.cells #[.bool false, .string kk, .string vv] 65)).drew) (w' := w') (hg hxl hpl).1]; exact stob_2 hS2.cell
        have u0 : ∀ w', Two2 x wr.heap.size (wr.alloc (.cells #[.bool false, .string kk, .string vv] 65)).drew w' → w'.cell? ⟨wr.heap.size, 1, none⟩ = some (.string kk) := fun w' hg => by
          rw [World.cell?_of_block (w := (wr.alloc (.cells #[.bool false, .string kk, .string vv] 65)).drew) (w' := w') (hg hxl hpl).2.1]; exact cells_of hnew 1 _ rfl
        have u1 : ∀ w', Two2 x wr.heap.size (wr.alloc (.cells #[.bool false, .string kk, .string vv] 65)).drew w' → w'.cell? ⟨wr.heap.size, 2, none⟩ = some (.string vv) := fun w' hg => by
          rw [World.cell?_of_block (w := (wr.alloc (.cells #[.bool false, .string kk, .string vv] 65)).drew) (w' := w') (hg hxl hpl).2.1]; exact cells_of hnew 2 _ rfl
        have PC := ix_put hS2.ix hfw kk vv hks
        unfold theIx at u2 PC
        have HP := Lib.hid PC
        have HS2 := Lib.hid (And.intro hS2 (And.intro (And.intro hF1 (t1.trans tA.nil_any)) (And.intro hxl hpl)))
        have HO := Lib.hid (And.intro hO hrL)
        clear hS hS2 hF1 t1 tA hnew hxl hpl PC hO hrL hfw hks hG z1 z2
        go_wp2_with fail
        clear d0 d1 d2
        refine wp_region_mvg (Two2 x wr.heap.size) (Two2.refl x wr.heap.size) Two2.trans [(0, 8, true), (8, 1, false)] (by kernel_rfl) (by kernel_rfl) ?_
        simp only [mvAll, mvSeg, List.drop_succ_cons, List.drop_zero, List.cons_append, List.nil_append, Nat.reduceAdd]
        iterate 8
          refine wpLing_still ?_ (fun w' hG K hK => ?_) (fun K hK => ?_)
          rotate_left
          · have v0 := u0 w' hG
            have v1 := u1 w' hG
            have v2 := u2 w' hG
            clear hG
            unfold mvVal
            go_simp
            try exact hK
          go_simp
          refine hK _ ?_
          clear hK K
        refine wpLing_call (fun K hK => ?_)
        unfold mvRun
        go_simp
        simp only [mvUpon]
        refine HP.out.mono ?_
        rintro e w2 ⟨rfl, hn⟩
        refine ⟨_, rfl, ?_⟩
        go_simp
        have HQ : Hid (SNext CSt w w2 base b x M n s ((X.take (k + 1)).foldl stepP L) most F) := Lib.hid (by
          rw [steps_next HO.out.1]
          exact SNext.cat HS2.out.2.1.1 HS2.out.2.1.2 (HS2.out.1.ix_next hn (rise_step HO.out.2 ⟨false, kk, vv⟩)))
        refine hK _ _ (fun _ _ => ?_) ?_
        · obtain ⟨_, _, _, t2⟩ := hn
          exact ⟨t2.block x HS2.out.2.2.1 HS2.out.1.xi, t2.block _ HS2.out.2.2.2 (fun hm => by have := HF2.out _ hm; omega), t2.size⟩
        clear hK K u0 u1 u2 HP hn
        refine wpLing_nil ?_
        go_wp2_with fail
        exact ⟨⟨k + 1, by omega, by go_num, HQ⟩, by simp [RowKit.intOf]; omega⟩
    · have h3 : ¬ (k : Int) < (m : Int) := by omega
      obtain rfl : k = m := by omega
      have HQ : Hid (SNext CSt w wr base b x M n s (X.foldl stepP L) most F) := Lib.hid (by
        have := hG.out
        rwa [List.take_of_length_le (by have := HM.out.1; omega)] at this)
      clear hG
      go_wp2_with fail
      go_end0
      exact ⟨rfl, HQ.out⟩
end Go.Proofs.YthcdkggkoanjpaaGreatDoor
