/- Both logs in one memory. Numbers and types by name. -/
import Derived.Test.YthacjeeafnblmaaGreatDoorObt
import Derived.Test.YthacjeeafnblmaaGreatDoorWro
namespace Go.Proofs.YthacjeeafnblmaaGreatDoor
open Go.RowKit Go.Lib

/-- The code's log q and the reference's log p, each with its disk; nothing of theirs that is written is named by X. -/
def DuoW (X : Nat → Prop) (w : World) (base b r q p : Nat) (M1 : MD) (n1 : Nat) (s1 : Bool) (M2 : MD) (n2 : Nat) (s2 : Bool) : Prop :=
  (∀ k, X k → k < w.heap.size) ∧ ¬ X q ∧ ¬ X p ∧ q ≠ p ∧ ∃ Fd Fr G, CW w base b q M1 n1 s1 Fd ∧ RW w r p M2 n2 s2 Fr G ∧ (∀ k ∈ Fd, k ∉ Fr ∧ k ∉ G ∧ ¬ X k) ∧ (∀ k ∈ Fr, ¬ X k) ∧ q ∉ Fr ∧ q ∉ G ∧ p ∉ Fd
/-- The code's log alone is open. -/
def Half (X : Nat → Prop) (w : World) (base b r q : Nat) (M1 : MD) (n1 : Nat) (s1 : Bool) (M2 : MD) : Prop :=
  (∀ k, X k → k < w.heap.size) ∧ ¬ X q ∧ ∃ Fd Fr G, CW w base b q M1 n1 s1 Fd ∧ RD w r M2 Fr G ∧ (∀ k ∈ Fd, k ∉ Fr ∧ k ∉ G ∧ ¬ X k) ∧ (∀ k ∈ Fr, ¬ X k) ∧ q ∉ Fr ∧ q ∉ G

theorem DuoW.both {X : Nat → Prop} {w : World} {base b r q p : Nat} {M1 M2 : MD} {n1 n2 : Nat} {s1 s2 : Bool} (h : DuoW X w base b r q p M1 n1 s1 M2 n2 s2) : Both X w base b r M1 M2 := by
  obtain ⟨h1, _, _, _, Fd, Fr, G, h2, h3, h4, h5, _⟩ := h
  exact ⟨h1, Fd, Fr, G, h2.1, h3.1, h4, h5⟩
theorem DuoW.less {X Y : Nat → Prop} {w : World} {base b r q p : Nat} {M1 M2 : MD} {n1 n2 : Nat} {s1 s2 : Bool} (h : DuoW X w base b r q p M1 n1 s1 M2 n2 s2) (hY : ∀ k, Y k → X k) : DuoW Y w base b r q p M1 n1 s1 M2 n2 s2 := by
  obtain ⟨h1, g1, g2, g3, Fd, Fr, G, h2, h3, h4, h5, h6⟩ := h
  exact ⟨fun k hk => h1 k (hY k hk), fun hy => g1 (hY q hy), fun hy => g2 (hY p hy), g3, Fd, Fr, G, h2, h3, fun k hk => ⟨(h4 k hk).1, (h4 k hk).2.1, fun hy => (h4 k hk).2.2 (hY k hy)⟩, fun k hk hy => h5 k hk (hY k hy), h6⟩
theorem DuoW.new {X : Nat → Prop} {w w' : World} {base b r q p : Nat} {M1 M2 : MD} {n1 n2 : Nat} {s1 s2 : Bool} (h : DuoW X w base b r q p M1 n1 s1 M2 n2 s2) (t : Turn [] w w') : DuoW X w' base b r q p M1 n1 s1 M2 n2 s2 := by
  obtain ⟨h1, g1, g2, g3, Fd, Fr, G, h2, h3, h4, h5, h6⟩ := h
  exact ⟨fun k hk => Nat.lt_of_lt_of_le (h1 k hk) t.size, g1, g2, g3, Fd, Fr, G, h2.new t, h3.keep t (by simp) (by simp) (by simp), h4, h5, h6⟩
theorem DuoW.objs {X : Nat → Prop} {w : World} {base b r q p : Nat} {M1 M2 : MD} {n1 n2 : Nat} {s1 s2 : Bool} (h : DuoW X w base b r q p M1 n1 s1 M2 n2 s2) : CO w b q n1 s1 ∧ w.heap[p]? = some (wob 47 (theRef r) n2 s2) := by
  obtain ⟨_, _, _, _, Fd, Fr, G, h2, h3, _⟩ := h
  exact ⟨h2.2.2, h3.2.2.2⟩

theorem DuoW.code {X : Nat → Prop} {w w' : World} {base b r q p : Nat} {M' M2 : MD} {n' n2 : Nat} {s' s2 : Bool} {Fd Fr G : List Nat} (h1 : ∀ k, X k → k < w.heap.size) (g1 : ¬ X q) (g2 : ¬ X p) (g3 : q ≠ p) (h3 : RW w r p M2 n2 s2 Fr G) (h4 : ∀ k ∈ Fd, k ∉ Fr ∧ k ∉ G ∧ ¬ X k) (h5 : ∀ k ∈ Fr, ¬ X k) (h6 : q ∉ Fr) (h7 : q ∉ G) (h8 : p ∉ Fd)
    (hn : CWNext w w' base b q M' n' s' Fd) : DuoW X w' base b r q p M' n' s' M2 n2 s2 ∧ Stays X w w' := by
  obtain ⟨F', k1, k2, t⟩ := hn
  have hp := h3.lt
  refine ⟨⟨fun k hk => Nat.lt_of_lt_of_le (h1 k hk) t.size, g1, g2, g3, F', Fr, G, k1, h3.keep t ?_ ?_ ?_, fun k hk => ?_, h5, h6, h7, fun hm => ?_⟩, Stays.of_turn t fun k hk => ⟨h1 k hk, fun hm => ?_⟩⟩
  · simp only [List.mem_cons]; rintro (e | e)
    · exact g3 e.symm
    · exact h8 e
  · intro k hk hm
    rcases List.mem_cons.1 hm with rfl | hm
    · exact h6 hk
    · exact (h4 k hm).1 hk
  · intro k hk hm
    rcases List.mem_cons.1 hm with rfl | hm
    · exact h7 hk
    · exact (h4 k hm).2.1 hk
  · rcases k2 k hk with e | e
    · exact h4 k e
    · exact ⟨fun hm => by have := h3.1.lt.1 k hm; omega, fun hm => by have := (h3.1.lt.2 k hm).2; omega, fun hx => by have := h1 k hx; omega⟩
  · rcases k2 p hm with e | e
    · exact h8 e
    · omega
  · rcases List.mem_cons.1 hm with rfl | hm
    · exact g1 hk
    · exact (h4 k hm).2.2 hk
theorem DuoW.ref {X : Nat → Prop} {w w' : World} {base b r q p : Nat} {M1 M' : MD} {n1 n' : Nat} {s1 s' : Bool} {Fd Fr G : List Nat} (h1 : ∀ k, X k → k < w.heap.size) (g1 : ¬ X q) (g2 : ¬ X p) (g3 : q ≠ p) (h2 : CW w base b q M1 n1 s1 Fd) (h4 : ∀ k ∈ Fd, k ∉ Fr ∧ k ∉ G ∧ ¬ X k) (h5 : ∀ k ∈ Fr, ¬ X k) (h6 : q ∉ Fr) (h7 : q ∉ G) (h8 : p ∉ Fd)
    (hn : RWNext w w' r p M' n' s' Fr G) : DuoW X w' base b r q p M1 n1 s1 M' n' s' ∧ Stays X w w' := by
  obtain ⟨F', G', k1, k2, k3, t⟩ := hn
  have hq := h2.lt
  refine ⟨⟨fun k hk => Nat.lt_of_lt_of_le (h1 k hk) t.size, g1, g2, g3, Fd, F', G', h2.keep t ?_ ?_, k1, fun k hk => ⟨fun hm => ?_, fun hm => ?_, (h4 k hk).2.2⟩, fun k hk hx => ?_, fun hm => ?_, fun hm => ?_, h8⟩, Stays.of_turn t fun k hk => ⟨h1 k hk, fun hm => ?_⟩⟩
  · simp only [List.mem_cons]; rintro (e | e)
    · exact g3 e
    · exact h6 e
  · intro k hk hm
    rcases List.mem_cons.1 hm with rfl | hm
    · exact h8 hk
    · exact (h4 k hk).1 hm
  · rcases k2 k hm with e | e
    · exact (h4 k hk).1 e
    · have := (h2.1.lt k hk).2; omega
  · rcases k3 k hm with e | e
    · exact (h4 k hk).2.1 e
    · have := (h2.1.lt k hk).2; omega
  · rcases k2 k hk with e | e
    · exact h5 k e hx
    · have := h1 k hx; omega
  · rcases k2 q hm with e | e
    · exact h6 e
    · omega
  · rcases k3 q hm with e | e
    · exact h7 e
    · omega
  · rcases List.mem_cons.1 hm with rfl | hm
    · exact g2 hk
    · exact h5 k hm hk

theorem duo_commit_code {X : Nat → Prop} {w : World} {base b r q p : Nat} {M1 M2 : MD} {n1 n2 : Nat} {s1 s2 : Bool} (h : DuoW X w base b r q p M1 n1 s1 M2 n2 s2) (ht : Tab w) {v : Value} {m : Nat} {L : List Opm} (hr : Opr w v m L) (hb : bulkO L ≤ 5000) {K J j : Nat} (hw : Well K M1 j) (hj : j + 2 ≤ J) (hK : Room K J) (hK2 : (frms (recs L)).length ≤ K) (hn : n1 ≤ 900000000) :
    Calls Tryz.prog 20 #[.pointer (some ⟨q, 0, none⟩), v] w fun e w' => e = .returned (.int .i64 (commitP M1 n1 s1 L).e) ∧ DuoW X w' base b r q p (commitP M1 n1 s1 L).M (commitP M1 n1 s1 L).n (commitP M1 n1 s1 L).s M2 n2 s2 ∧ Stays X w w' := by
  obtain ⟨h1, g1, g2, g3, Fd, Fr, G, h2, h3, h4, h5, h6, h7, h8⟩ := h
  refine (wal_commit base b q M1 n1 s1 Fd v m L w h2 ht hr hb hw hj hK hK2 hn).mono ?_
  rintro e w' ⟨k, rfl, rfl, hn⟩
  exact ⟨rfl, DuoW.code h1 g1 g2 g3 h3 h4 h5 h6 h7 h8 hn⟩
theorem duo_commit_ref {X : Nat → Prop} {w : World} {base b r q p : Nat} {M1 M2 : MD} {n1 n2 : Nat} {s1 s2 : Bool} (h : DuoW X w base b r q p M1 n1 s1 M2 n2 s2) {v : Value} {m : Nat} {L : List Opm} (hr : Opr w v m L) (hb : bulkO L ≤ 5000) {K J j : Nat} (hw : Well K M2 j) (hj : j + 2 ≤ J) (hK : Room K J) (hK2 : (frms (recs L)).length ≤ K) (hn : n2 ≤ 900000000) :
    Calls Tryz.prog 21 #[.pointer (some ⟨p, 0, none⟩), v] w fun e w' => e = .returned (.int .i64 (commitP M2 n2 s2 L).e) ∧ DuoW X w' base b r q p M1 n1 s1 (commitP M2 n2 s2 L).M (commitP M2 n2 s2 L).n (commitP M2 n2 s2 L).s ∧ Stays X w w' := by
  obtain ⟨h1, g1, g2, g3, Fd, Fr, G, h2, h3, h4, h5, h6, h7, h8⟩ := h
  refine (ref_commit r p M2 n2 s2 Fr G v m L w h3 hr hb hw.held.cap hw hj hK hK2 hn).mono ?_
  rintro e w' ⟨k, rfl, rfl, hn⟩
  exact ⟨rfl, DuoW.ref h1 g1 g2 g3 h2 h4 h5 h6 h7 h8 hn⟩
theorem duo_reset_code {X : Nat → Prop} {w : World} {base b r q p : Nat} {M1 M2 : MD} {n1 n2 : Nat} {s1 s2 : Bool} (h : DuoW X w base b r q p M1 n1 s1 M2 n2 s2) (hl : Lim M1) :
    Calls Tryz.prog 17 #[.pointer (some ⟨q, 0, none⟩)] w fun e w' => e = .returned (.int .i64 (resetP M1 n1 s1).e) ∧ DuoW X w' base b r q p (resetP M1 n1 s1).M (resetP M1 n1 s1).n (resetP M1 n1 s1).s M2 n2 s2 ∧ Stays X w w' := by
  obtain ⟨h1, g1, g2, g3, Fd, Fr, G, h2, h3, h4, h5, h6, h7, h8⟩ := h
  refine (wal_reset base b q M1 n1 s1 Fd w h2 hl).mono ?_
  rintro e w' ⟨k, rfl, rfl, hn⟩
  exact ⟨rfl, DuoW.code h1 g1 g2 g3 h3 h4 h5 h6 h7 h8 hn⟩
theorem duo_reset_ref {X : Nat → Prop} {w : World} {base b r q p : Nat} {M1 M2 : MD} {n1 n2 : Nat} {s1 s2 : Bool} (h : DuoW X w base b r q p M1 n1 s1 M2 n2 s2) (hl : Lim M2) :
    Calls Tryz.prog 18 #[.pointer (some ⟨p, 0, none⟩)] w fun e w' => e = .returned (.int .i64 (resetP M2 n2 s2).e) ∧ DuoW X w' base b r q p M1 n1 s1 (resetP M2 n2 s2).M (resetP M2 n2 s2).n (resetP M2 n2 s2).s ∧ Stays X w w' := by
  obtain ⟨h1, g1, g2, g3, Fd, Fr, G, h2, h3, h4, h5, h6, h7, h8⟩ := h
  refine (ref_reset r p M2 n2 s2 Fr G w h3 hl).mono ?_
  rintro e w' ⟨k, rfl, rfl, hn⟩
  exact ⟨rfl, DuoW.ref h1 g1 g2 g3 h2 h4 h5 h6 h7 h8 hn⟩

/-- The code's Open beside the reference's disk. -/
theorem duo_open_code {X : Nat → Prop} {w : World} {base b r : Nat} {M M2 : MD} (h : Both X w base b r M M2) (ht : TabAt base w) {K J j : Nat} (hw : Well K M j) (hj : j + 3 ≤ J) (hR : Room K J) :
    Calls Tryz.prog 11 #[theDisk b] w fun e w' =>
      ((openP M).e ≠ 0 ∧ e = .returned (.tuple #[.pointer none, .slice none 0 0, .int .i64 (openP M).e]) ∧ Both X w' base b r (openP M).M M2 ∧ Stays X w w') ∨
      ((openP M).e = 0 ∧ ∃ q ao jn c lo hi, e = .returned (.tuple #[.pointer (some ⟨q, 0, none⟩), .slice ao jn c, .int .i64 0]) ∧ Half (fun k => X k ∨ lo ≤ k ∧ k < hi) w' base b r q (openP M).M (openP M).n false M2 ∧ ObsB w' lo hi (.slice ao jn c) jn (openP M).l ∧ Stays X w w') := by
  obtain ⟨h1, Fd, Fr, G, h2, h3, h4, h5⟩ := h
  refine (wal_open base b M Fd w h2 ht hw hj hR).mono ?_
  rintro e w' (⟨he, rfl, hn⟩ | ⟨he, q, ao, jn, c, lo, hi, F', rfl, k1, k2, t, l1, l2, l3, l4, l5, l6⟩)
  · exact .inl ⟨he, rfl, Both.code h1 h3 h4 h5 hn⟩
  refine .inr ⟨he, q, ao, jn, c, lo, hi, rfl, ⟨fun k hk => ?_, fun hx => ?_, F', Fr, G, k1, h3.keep t (fun k hk hm => (h4 k hm).1 hk) (fun k hk hm => (h4 k hm).2.1 hk), fun k hk => ?_, fun k hk hx => ?_, fun hm => ?_, fun hm => ?_⟩, l5, Stays.of_turn t fun k hk => ⟨h1 k hk, fun hm => (h4 k hm).2.2 hk⟩⟩
  · rcases hk with hk | hk
    · exact Nat.lt_of_lt_of_le (h1 k hk) t.size
    · omega
  · rcases hx with hx | hx
    · have := h1 q hx; omega
    · omega
  · have hlh := l6 k hk
    rcases k2 k hk with e | e
    · refine ⟨(h4 k e).1, (h4 k e).2.1, fun hx => ?_⟩
      rcases hx with hx | hx
      · exact (h4 k e).2.2 hx
      · omega
    · refine ⟨fun hm => by have := h3.lt.1 k hm; omega, fun hm => by have := (h3.lt.2 k hm).2; omega, fun hx => ?_⟩
      rcases hx with hx | hx
      · have := h1 k hx; omega
      · omega
  · have := h3.lt.1 k hk
    rcases hx with hx | hx
    · exact h5 k hk hx
    · omega
  · have := h3.lt.1 q hm; omega
  · have := (h3.lt.2 q hm).2; omega
/-- The reference's Open beside the code's log. -/
theorem duo_open_ref {X : Nat → Prop} {w : World} {base b r q : Nat} {M1 M : MD} {n1 : Nat} {s1 : Bool} (h : Half X w base b r q M1 n1 s1 M) {K J j : Nat} (hw : Well K M j) (hj : j + 3 ≤ J) (hR : Room K J) (hO : (openP M).e = 0) :
    Calls Tryz.prog 12 #[theRef r] w fun e w' => ∃ p ao jn c lo hi, e = .returned (.tuple #[.pointer (some ⟨p, 0, none⟩), .slice ao jn c, .int .i64 0]) ∧ DuoW (fun k => X k ∨ lo ≤ k ∧ k < hi) w' base b r q p M1 n1 s1 (openP M).M (openP M).n false ∧ ObsB w' lo hi (.slice ao jn c) jn (openP M).l ∧ Stays X w w' := by
  obtain ⟨h1, g1, Fd, Fr, G, h2, h3, h4, h5, h6, h7⟩ := h
  refine (ref_open r M Fr G w h3 hw hj hR).mono ?_
  rintro e w' (⟨he, _⟩ | ⟨_, p, ao, jn, c, lo, hi, F', G', rfl, k1, k2, k3, t, l1, l2, l0, l3, l4⟩)
  · exact absurd hO he
  have hq := h2.lt
  have hp := k1.lt
  refine ⟨p, ao, jn, c, lo, hi, rfl, ⟨fun k hk => ?_, fun hx => ?_, fun hx => ?_, ?_, Fd, F', G', h2.keep t h6 (fun k hk hm => (h4 k hk).1 hm), k1, fun k hk => ⟨fun hm => ?_, fun hm => ?_, fun hx => ?_⟩, fun k hk hx => ?_, fun hm => ?_, fun hm => ?_, fun hm => ?_⟩, l3, Stays.of_turn t fun k hk => ⟨h1 k hk, fun hm => h5 k hm hk⟩⟩
  · rcases hk with hk | hk
    · exact Nat.lt_of_lt_of_le (h1 k hk) t.size
    · omega
  · rcases hx with hx | hx
    · exact g1 hx
    · omega
  · rcases hx with hx | hx
    · have := h1 p hx; omega
    · omega
  · omega
  · rcases k2 k hm with e | e
    · exact (h4 k hk).1 e
    · have := (h2.1.lt k hk).2; omega
  · rcases k3 k hm with e | e
    · exact (h4 k hk).2.1 e
    · have := (h2.1.lt k hk).2; omega
  · rcases hx with hx | hx
    · exact (h4 k hk).2.2 hx
    · have := (h2.1.lt k hk).2; omega
  · rcases hx with hx | hx
    · rcases k2 k hk with e | e
      · exact h5 k e hx
      · have := h1 k hx; omega
    · have := l4 k hk; omega
  · rcases k2 q hm with e | e
    · exact h6 e
    · omega
  · rcases k3 q hm with e | e
    · exact h7 e
    · omega
  · have := (h2.1.lt p hm).2; omega

/-- The reference's Open where both fail. -/
theorem both_open_ref {X : Nat → Prop} {w : World} {base b r : Nat} {M1 M : MD} (h : Both X w base b r M1 M) {K J j : Nat} (hw : Well K M j) (hj : j + 3 ≤ J) (hR : Room K J) (hO : (openP M).e ≠ 0) :
    Calls Tryz.prog 12 #[theRef r] w fun e w' => e = .returned (.tuple #[.pointer none, .slice none 0 0, .int .i64 (openP M).e]) ∧ Both X w' base b r M1 (openP M).M ∧ Stays X w w' := by
  obtain ⟨h1, Fd, Fr, G, h2, h3, h4, h5⟩ := h
  refine (ref_open r M Fr G w h3 hw hj hR).mono ?_
  rintro e w' (⟨he, rfl, hn⟩ | ⟨he, _⟩)
  · exact ⟨rfl, Both.refd h1 h2 h3 h4 h5 (by simp) hn⟩
  · exact absurd he hO

end Go.Proofs.YthacjeeafnblmaaGreatDoor
