/- The logs' example. Numbers and types by name. -/
import Derived.Test.YthacjeeafnblmaaGreatDoorPr
import Derived.Test.YthacjeeafnblmaaGreatDoorRo
import Derived.Test.YthacjeeafnblmaaGreatDoorWcm
import Derived.Test.YthacjeeafnblmaaGreatDoorOo
import Derived.OwnWalk
/- Read of either disk beside the other. Numbers and types by name. -/
namespace Go.Proofs.YthacjeeafnblmaaGreatDoor
open Go.RowKit Go.Maps Go.Sort Go.WideMaps

theorem turn_grow {w w' : World} (t : Turn [] w w') : Grow w w' := t.below (Nat.le_refl _) (by simp)
theorem grow_turn {w w' : World} (h : Grow w w') : Turn [] w w' := turn_below h

theorem read_any_both {X : Nat → Prop} {w : World} {base b r : Nat} {M M2 : MD} (h : Both X w base b r M M2) (hl : Lim M) (name : ByteArray) (hz : name.size ≤ 1000000) :
    Calls Tryz.prog 32 #[theDisk b, .string name] w fun e w' => ∃ ao c, e = .returned (.tuple #[.slice ao (M.read name.data.toList).1.length c, .int .i64 (M.read name.data.toList).2]) ∧
      Reads w' (.slice ao (M.read name.data.toList).1.length c) (bv (M.read name.data.toList).1) ∧ Both X w' base b r M M2 ∧ Stays X w w' := by
  have h' := h
  obtain ⟨h0, Fd, Fr, G, h1, h2, h3, h4⟩ := h
  refine (read_cd base b M Fd name w h1 hl.fs hz).mono ?_
  rintro e w' ⟨ao, c, rfl, hB, t⟩
  exact ⟨ao, c, rfl, hB.reads, h'.new t, Stays.of_turn t fun q hq => ⟨h0 q hq, by simp⟩⟩

theorem ref_any_both {X : Nat → Prop} {w : World} {base b r : Nat} {M M1 : MD} (h : Both X w base b r M1 M) (hl : Lim M) (name : ByteArray) :
    Calls Tryz.prog 36 #[theRef r, .string name] w fun e w' => ∃ ao c, e = .returned (.tuple #[.slice ao (M.read name.data.toList).1.length c, .int .i64 (M.read name.data.toList).2]) ∧
      Reads w' (.slice ao (M.read name.data.toList).1.length c) (bv (M.read name.data.toList).1) ∧ Both X w' base b r M1 M ∧ (∀ v xs, Reads w v xs → Reads w' v xs) ∧ Stays X w w' := by
  have h' := h
  obtain ⟨h0, Fd, Fr, G, h1, h2, h3, h4⟩ := h
  refine (ref_read r M Fr G name w h2 hl.fs).mono ?_
  rintro e w' ⟨ao, c, rfl, hB, t⟩
  exact ⟨ao, c, rfl, hB.reads, h'.new t, fun v xs hr => hr.turn t (by simp), Stays.of_turn t fun q hq => ⟨h0 q hq, by simp⟩⟩

end Go.Proofs.YthacjeeafnblmaaGreatDoor

/- The reference's Rename. Numbers and types by name. -/
namespace Go.Proofs.YthacjeeafnblmaaGreatDoor
open Go.RowKit Go.Maps Go.Sort Go.WideMaps

theorem RD.wide {w : World} {r : Nat} {M : MD} {F G : List Nat} (h : RD w r M F G) (H : List Nat) (hH : ∀ q ∈ H, q ∉ F ∧ q < w.heap.size) : RD w r M F (G ++ H) := by
  obtain ⟨hf, s, ao, c, xs, hR, hP, hv, hown, hT, hF, hne, hGd⟩ := h
  refine ⟨hf, s, ao, c, xs, hR, ⟨hP.cap, hP.cr, hP.dn, hP.n, hP.dw, hP.fail, hP.keep, fun h a n c e => List.mem_append_left _ (hP.failG h a n c e), fun h a n c e => List.mem_append_left _ (hP.keepG h a n c e), hP.n0⟩, hv, hown, hT.more fun k hk => List.mem_append_left _ hk, hF, hne, fun q hq => ?_⟩
  rcases List.mem_append.1 hq with hq | hq
  · exact hGd q hq
  · exact hH q hq

theorem woE_none {k : List UInt8} {fs : List Ent} (h : fs.find? (isName k) = none) : woE k fs = fs := by
  unfold woE
  rw [List.filter_eq_self]
  intro x hx
  have := List.find?_eq_none.1 h x hx
  simpa using this

end Go.Proofs.YthacjeeafnblmaaGreatDoor

/- Restart of either disk beside the other. Numbers and types by name. -/
namespace Go.Proofs.YthacjeeafnblmaaGreatDoor
open Go.RowKit Go.Maps Go.Sort Go.WideMaps

theorem code_restart {X : Nat → Prop} {w : World} {base b r : Nat} {M M2 : MD} (h : Both X w base b r M M2) (hl : Lim M) (cap cr : Int) (dn : Bool) (fl kp : Value) (zs ks : List Int) (hf : Reads w fl (iv zs)) (hk : Reads w kp (iv ks))
    (hfX : zs ≠ [] → ∀ a n c, fl = .slice (some a) n c → X a.block) (hkX : ks ≠ [] → ∀ a n c, kp = .slice (some a) n c → X a.block) (hz : zs.length ≤ 200) (hz2 : ks.length ≤ 200) :
    Calls Tryz.prog 15 #[theDisk b, .agg #[.int .i64 cap, fl, .int .i64 cr, .bool dn, kp]] w fun e w' => e = .returned (.tuple #[]) ∧ Both X w' base b r (M.restart cap cr dn zs ks) M2 ∧ Stays X w w' := by
  obtain ⟨h0, Fd, Fr, G, h1, h2, h3, h4⟩ := h
  refine (restart_cd base b M Fd cap cr dn fl kp zs ks w h1 hl hf hk (fun hz a n c e hm => (h3 _ hm).2.2 (hfX hz a n c e)) (fun hz a n c e hm => (h3 _ hm).2.2 (hkX hz a n c e)) (by omega) (by omega)).mono ?_
  rintro e w' ⟨rfl, hn⟩
  exact ⟨rfl, Both.code h0 h2 h3 h4 hn⟩

theorem blocks_of (X : Nat → Prop) (v : Value) (zs : List Int) (hX : zs ≠ [] → ∀ a n c, v = .slice (some a) n c → X a.block) : ∃ P : List Nat, (zs ≠ [] → ∀ a n c, v = .slice (some a) n c → a.block ∈ P) ∧ ∀ q ∈ P, X q := by
  by_cases hz : zs = []
  · exact ⟨[], fun h => absurd hz h, by simp⟩
  · by_cases hv : ∃ a n c, v = .slice (some a) n c
    · obtain ⟨a, n, c, rfl⟩ := hv
      exact ⟨[a.block], fun _ a' n' c' e => by cases e; simp, fun q hq => by simp only [List.mem_singleton] at hq; subst hq; exact hX hz a n c rfl⟩
    · exact ⟨[], fun _ a n c e => absurd ⟨a, n, c, e⟩ hv, by simp⟩

theorem ref_restart_both {X : Nat → Prop} {w : World} {base b r : Nat} {M M1 : MD} (h : Both X w base b r M1 M) (hl : Lim M) (cap cr : Int) (dn : Bool) (fl kp : Value) (zs ks : List Int) (hf : Reads w fl (iv zs)) (hk : Reads w kp (iv ks))
    (hfX : zs ≠ [] → ∀ a n c, fl = .slice (some a) n c → X a.block) (hkX : ks ≠ [] → ∀ a n c, kp = .slice (some a) n c → X a.block) :
    Calls Tryz.prog 16 #[theRef r, .agg #[.int .i64 cap, fl, .int .i64 cr, .bool dn, kp]] w fun e w' => e = .returned (.tuple #[]) ∧ Both X w' base b r M1 (M.restart cap cr dn zs ks) ∧ Stays X w w' := by
  obtain ⟨h0, Fd, Fr, G, h1, h2, h3, h4⟩ := h
  obtain ⟨P1, p1, q1⟩ := blocks_of X fl zs hfX
  obtain ⟨P2, p2, q2⟩ := blocks_of X kp ks hkX
  have hPX : ∀ q ∈ P1 ++ P2, X q := fun q hq => by
    rcases List.mem_append.1 hq with h | h
    · exact q1 q h
    · exact q2 q h
  refine (ref_restart r M Fr G cap cr dn fl kp zs ks w h2 hl hf hk (P1 ++ P2) (fun hz a n c e => List.mem_append.2 (.inl (p1 hz a n c e))) (fun hz a n c e => List.mem_append.2 (.inr (p2 hz a n c e))) (fun q hq => ⟨fun hm => h4 q hm (hPX q hq), h0 q (hPX q hq)⟩)).mono ?_
  rintro e w' ⟨rfl, hn⟩
  exact ⟨rfl, Both.refd h0 h1 h2 h3 h4 hPX hn⟩

end Go.Proofs.YthacjeeafnblmaaGreatDoor

/- The code's disk and its log alone, beside blocks that stay: each call. Numbers and types by name. -/
namespace Go.Proofs.YthacjeeafnblmaaGreatDoor
open Go.RowKit Go.Lib

/-- The code's disk; none of its blocks is one of X. -/
def SolD (X : Nat → Prop) (w : World) (base b : Nat) (M : MD) : Prop :=
  (∀ k, X k → k < w.heap.size) ∧ ∃ F, CD w base b M F ∧ ∀ k ∈ F, ¬ X k
/-- And its log. -/
def Sol (X : Nat → Prop) (w : World) (base b q : Nat) (M : MD) (n : Nat) (s : Bool) : Prop :=
  (∀ k, X k → k < w.heap.size) ∧ ¬ X q ∧ ∃ F, CW w base b q M n s F ∧ ∀ k ∈ F, ¬ X k

theorem Sol.disk {X : Nat → Prop} {w : World} {base b q : Nat} {M : MD} {n : Nat} {s : Bool} (h : Sol X w base b q M n s) : SolD X w base b M := by
  obtain ⟨h1, _, F, h2, h3⟩ := h
  exact ⟨h1, F, h2.1, h3⟩
/-- The log is one of what stays. -/
theorem Sol.parted {X : Nat → Prop} {w : World} {base b q : Nat} {M : MD} {n : Nat} {s : Bool} (h : Sol X w base b q M n s) : SolD (fun k => X k ∨ k = q) w base b M ∧ CO w b q n s := by
  obtain ⟨h1, h0, F, h2, h3⟩ := h
  refine ⟨⟨fun k hk => ?_, F, h2.1, fun k hk hx => ?_⟩, h2.2.2⟩
  · rcases hk with hk | rfl
    · exact h1 k hk
    · exact h2.lt
  · rcases hx with hx | rfl
    · exact h3 k hk hx
    · exact h2.2.1.1 hk
theorem Sol.new {X : Nat → Prop} {w w' : World} {base b q : Nat} {M : MD} {n : Nat} {s : Bool} (h : Sol X w base b q M n s) (t : Turn [] w w') : Sol X w' base b q M n s := by
  obtain ⟨h1, h0, F, h2, h3⟩ := h
  exact ⟨fun k hk => Nat.lt_of_lt_of_le (h1 k hk) t.size, h0, F, h2.new t, h3⟩
theorem SolD.new {X : Nat → Prop} {w w' : World} {base b : Nat} {M : MD} (h : SolD X w base b M) (t : Turn [] w w') : SolD X w' base b M := by
  obtain ⟨h1, F, h2, h3⟩ := h
  exact ⟨fun k hk => Nat.lt_of_lt_of_le (h1 k hk) t.size, F, h2.new t, h3⟩
theorem SolD.less {X Y : Nat → Prop} {w : World} {base b : Nat} {M : MD} (h : SolD X w base b M) (hY : ∀ k, Y k → X k) : SolD Y w base b M := by
  obtain ⟨h1, F, h2, h3⟩ := h
  exact ⟨fun k hk => h1 k (hY k hk), F, h2, fun k hk hy => h3 k hk (hY k hy)⟩
theorem Sol.less {X Y : Nat → Prop} {w : World} {base b q : Nat} {M : MD} {n : Nat} {s : Bool} (h : Sol X w base b q M n s) (hY : ∀ k, Y k → X k) : Sol Y w base b q M n s := by
  obtain ⟨h1, h0, F, h2, h3⟩ := h
  exact ⟨fun k hk => h1 k (hY k hk), fun hy => h0 (hY q hy), F, h2, fun k hk hy => h3 k hk (hY k hy)⟩
/-- New blocks may be among what stays. -/
theorem Sol.more {X Y : Nat → Prop} {w w' : World} {base b q : Nat} {M : MD} {n : Nat} {s : Bool} (h : Sol X w base b q M n s) (t : Turn [] w w') (hY : ∀ k, Y k → X k ∨ w.heap.size ≤ k ∧ k < w'.heap.size) : Sol Y w' base b q M n s := by
  obtain ⟨h1, h0, F, h2, h3⟩ := h
  have hq := h2.lt
  refine ⟨fun k hk => ?_, fun hy => ?_, F, h2.new t, fun k hk hy => ?_⟩
  · rcases hY k hk with h | h
    · exact Nat.lt_of_lt_of_le (h1 k h) t.size
    · exact h.2
  · rcases hY q hy with h | h
    · exact h0 h
    · omega
  · rcases hY k hy with h | h
    · exact h3 k hk h
    · have := (h2.1.lt k hk).2; omega
theorem SolD.more {X Y : Nat → Prop} {w w' : World} {base b : Nat} {M : MD} (h : SolD X w base b M) (t : Turn [] w w') (hY : ∀ k, Y k → X k ∨ w.heap.size ≤ k ∧ k < w'.heap.size) : SolD Y w' base b M := by
  obtain ⟨h1, F, h2, h3⟩ := h
  refine ⟨fun k hk => ?_, F, h2.new t, fun k hk hy => ?_⟩
  · rcases hY k hk with h | h
    · exact Nat.lt_of_lt_of_le (h1 k h) t.size
    · exact h.2
  · rcases hY k hy with h | h
    · exact h3 k hk h
    · have := (h2.lt k hk).2; omega

theorem SolD.next {X : Nat → Prop} {w w' : World} {base b : Nat} {M' : MD} {F : List Nat} (h1 : ∀ k, X k → k < w.heap.size) (h3 : ∀ k ∈ F, ¬ X k) (hn : Next w w' base b M' F) : SolD X w' base b M' ∧ Stays X w w' := by
  obtain ⟨F', k1, k2, t⟩ := hn
  refine ⟨⟨fun k hk => Nat.lt_of_lt_of_le (h1 k hk) t.size, F', k1, fun k hk hx => ?_⟩, Stays.of_turn t fun k hk => ⟨h1 k hk, fun hm => h3 k hm hk⟩⟩
  rcases k2 k hk with h | h
  · exact h3 k h hx
  · have := h1 k hx; omega
theorem Sol.next {X : Nat → Prop} {w w' : World} {base b q : Nat} {M' : MD} {n' : Nat} {s' : Bool} {F : List Nat} (h1 : ∀ k, X k → k < w.heap.size) (h0 : ¬ X q) (h3 : ∀ k ∈ F, ¬ X k) (hn : CWNext w w' base b q M' n' s' F) : Sol X w' base b q M' n' s' ∧ Stays X w w' := by
  obtain ⟨F', k1, k2, t⟩ := hn
  refine ⟨⟨fun k hk => Nat.lt_of_lt_of_le (h1 k hk) t.size, h0, F', k1, fun k hk hx => ?_⟩, Stays.of_turn t fun k hk => ⟨h1 k hk, fun hm => ?_⟩⟩
  · rcases k2 k hk with h | h
    · exact h3 k h hx
    · have := h1 k hx; omega
  · rcases List.mem_cons.1 hm with rfl | hm
    · exact h0 hk
    · exact h3 k hm hk

theorem CO.stays {X : Nat → Prop} {w w' : World} {b q n : Nat} {s : Bool} (h : CO w b q n s) (hs : Stays X w w') (hx : X q) : CO w' b q n s := by
  unfold CO at *
  rw [hs.2 q hx]
  exact h
theorem ObsB.stays {X : Nat → Prop} {w w' : World} {lo hi : Nat} {v : Value} {n : Nat} {LL : List (List Opm)} (h : ObsB w lo hi v n LL) (hs : Stays X w w') (hX : ∀ k, lo ≤ k → k < hi → X k) : ObsB w' lo hi v n LL := by
  obtain ⟨h1, h2, vs, h3, h4, h5, h6, h7⟩ := h
  refine ⟨h1, h2, vs, ?_, h4, ⟨h5.1, fun j L hj => ?_⟩, h6, h7⟩
  · exact hs.reads h3 fun _ a n c e => hX _ (h6 a n c e).1 (h6 a n c e).2
  · obtain ⟨ao, c, e1, e2⟩ := h5.2 j L hj
    refine ⟨ao, c, e1, e2.1, e2.2.1, ?_, e2.2.2.2⟩
    obtain ⟨ao', cap, e, g0, g1, g2, g3⟩ := e2.2.2.1
    refine ⟨ao', cap, e, g0, g1, g2, fun a ha i u hi => ?_⟩
    refine hs.cell ?_ (g3 a ha i u hi)
    rw [add_block]
    have hin : a.block = a.block := rfl
    have := h7 _ (List.mem_of_getElem? e1) a L.length cap (by rw [e, ha])
    exact hX _ this.1 this.2

theorem sol_commit {X : Nat → Prop} {w : World} {base b q : Nat} {M : MD} {n : Nat} {s : Bool} (h : Sol X w base b q M n s) (ht : Tab w) {v : Value} {m : Nat} {L : List Opm} (hr : Opr w v m L) (hb : bulkO L ≤ 5000) {K J j : Nat} (hw : Well K M j) (hj : j + 2 ≤ J) (hK : Room K J) (hK2 : (frms (recs L)).length ≤ K) (hn : n ≤ 900000000) :
    Calls Tryz.prog 20 #[.pointer (some ⟨q, 0, none⟩), v] w fun e w' => e = .returned (.int .i64 (commitP M n s L).e) ∧ Sol X w' base b q (commitP M n s L).M (commitP M n s L).n (commitP M n s L).s ∧ Stays X w w' := by
  obtain ⟨h1, h0, F, h2, h3⟩ := h
  refine (wal_commit base b q M n s F v m L w h2 ht hr hb hw hj hK hK2 hn).mono ?_
  rintro e w' ⟨k, rfl, rfl, hn⟩
  exact ⟨rfl, Sol.next h1 h0 h3 hn⟩
theorem sol_reset {X : Nat → Prop} {w : World} {base b q : Nat} {M : MD} {n : Nat} {s : Bool} (h : Sol X w base b q M n s) (hl : Lim M) :
    Calls Tryz.prog 17 #[.pointer (some ⟨q, 0, none⟩)] w fun e w' => e = .returned (.int .i64 (resetP M n s).e) ∧ Sol X w' base b q (resetP M n s).M (resetP M n s).n (resetP M n s).s ∧ Stays X w w' := by
  obtain ⟨h1, h0, F, h2, h3⟩ := h
  refine (wal_reset base b q M n s F w h2 hl).mono ?_
  rintro e w' ⟨k, rfl, rfl, hn⟩
  exact ⟨rfl, Sol.next h1 h0 h3 hn⟩
theorem Sol.obj {X : Nat → Prop} {w : World} {base b q : Nat} {M : MD} {n : Nat} {s : Bool} (h : Sol X w base b q M n s) : CO w b q n s := by
  obtain ⟨_, _, F, h2, _⟩ := h
  exact h2.2.2

/-- Open: all went well. -/
theorem sol_open_at {X : Nat → Prop} {w : World} {base b : Nat} {M : MD} (h : SolD X w base b M) (ht : TabAt base w) {K J j : Nat} (hw : Well K M j) (hj : j + 3 ≤ J) (hR : Room K J) (hO : (openP M).e = 0) :
    Calls Tryz.prog 11 #[theDisk b] w fun e w' => ∃ q ao jn c lo hi, e = .returned (.tuple #[.pointer (some ⟨q, 0, none⟩), .slice ao jn c, .int .i64 0]) ∧ Sol (fun k => X k ∨ lo ≤ k ∧ k < hi) w' base b q (openP M).M (openP M).n false ∧ ObsB w' lo hi (.slice ao jn c) jn (openP M).l ∧ Stays X w w' ∧ w.heap.size ≤ lo := by
  obtain ⟨h1, F, h2, h3⟩ := h
  refine (wal_open base b M F w h2 ht hw hj hR).mono ?_
  rintro e w' (⟨he, _⟩ | ⟨_, q, ao, jn, c, lo, hi, F', rfl, k1, k2, t, l1, l2, l3, l4, l5, l6⟩)
  · exact absurd hO he
  refine ⟨q, ao, jn, c, lo, hi, rfl, ⟨fun k hk => ?_, fun hx => ?_, F', k1, fun k hk hx => ?_⟩, l5, Stays.of_turn t fun k hk => ⟨h1 k hk, fun hm => h3 k hm hk⟩, l1⟩
  · rcases hk with hk | hk
    · exact Nat.lt_of_lt_of_le (h1 k hk) t.size
    · omega
  · rcases hx with hx | hx
    · have := h1 q hx; omega
    · omega
  · rcases hx with hx | hx
    · rcases k2 k hk with h | h
      · exact h3 k h hx
      · have := h1 k hx; omega
    · have := l6 k hk; omega

theorem sol_open {X : Nat → Prop} {w : World} {base b : Nat} {M : MD} (h : SolD X w base b M) (ht : TabAt base w) {K J j : Nat} (hw : Well K M j) (hj : j + 3 ≤ J) (hR : Room K J) (hO : (openP M).e = 0) :
    Calls Tryz.prog 11 #[theDisk b] w fun e w' => ∃ q ao jn c lo hi, e = .returned (.tuple #[.pointer (some ⟨q, 0, none⟩), .slice ao jn c, .int .i64 0]) ∧ Sol (fun k => X k ∨ lo ≤ k ∧ k < hi) w' base b q (openP M).M (openP M).n false ∧ ObsB w' lo hi (.slice ao jn c) jn (openP M).l ∧ Stays X w w' := by
  refine (sol_open_at h ht hw hj hR hO).mono ?_
  rintro e w' ⟨q, ao, jn, c, lo, hi, h1, h2, h3, h4, _⟩
  exact ⟨q, ao, jn, c, lo, hi, h1, h2, h3, h4⟩

theorem sol_restart {X : Nat → Prop} {w : World} {base b : Nat} {M : MD} (h : SolD X w base b M) (hl : Lim M) (cap cr : Int) (dn : Bool) :
    Calls Tryz.prog 15 #[theDisk b, .agg #[.int .i64 cap, .slice none 0 0, .int .i64 cr, .bool dn, .slice none 0 0]] w fun e w' => e = .returned (.tuple #[]) ∧ SolD X w' base b (M.restart cap cr dn [] []) ∧ Stays X w w' := by
  obtain ⟨h1, F, h2, h3⟩ := h
  refine (restart_cd base b M F cap cr dn _ _ [] [] w h2 hl (Reads.nil w) (Reads.nil w) (by simp) (by simp) (by simp) (by simp)).mono ?_
  rintro e w' ⟨rfl, hn⟩
  exact ⟨rfl, SolD.next h1 h3 hn⟩

theorem well_new (K : Nat) (cap cr : Int) (dn : Bool) (zs ks : List Int) (hc : cap ≤ 9223372036854775807) (hz : zs.length ≤ 200) (hk : ks.length ≤ 200) : Well K (MD.new cap cr dn zs ks) 0 :=
  ⟨⟨Int.le_refl _, Nat.zero_le _, Nat.zero_le _, hz, hk, hc⟩, List.Pairwise.nil⟩
theorem well_restart {K : Nat} {M : MD} {j : Nat} (h : Well K M j) {cap cr : Int} {dn : Bool} {zs ks : List Int} (hc : cap ≤ 9223372036854775807) (hz : zs.length ≤ 200) (hk : ks.length ≤ 200) : Well K (M.restart cap cr dn zs ks) (j + 1) :=
  ⟨held_restart h.held hc hz hk, rising_of_names (by show ((resE M.keep M.fs M.fs.length).map (·.1)).Pairwise (· < ·); rw [resE_names]; exact h.up.names)⟩

end Go.Proofs.YthacjeeafnblmaaGreatDoor

/- A list of one op that is written out. Numbers and types by name. -/
namespace Go.Proofs.YthacjeeafnblmaaGreatDoor
open Go.RowKit Go.Lib

theorem Opr.lit (w : World) (o : Opm) (h : o.key.size ≤ maxLen ∧ o.val.size ≤ maxLen) : Opr (w.alloc (.cells (ov o).toArray 68)) (.slice (some ⟨w.heap.size, 0, none⟩) 1 1) 1 [o] :=
  ⟨rfl, by unfold maxLen; decide, by simpa [ovs] using Cells.lit w (ov o) 68 (0, 0) 3 1 rfl, fun p hp => by rw [List.mem_singleton.1 hp]; exact h⟩

end Go.Proofs.YthacjeeafnblmaaGreatDoor

/- Numbers of errors; boxes. Numbers and types by name. -/
namespace Go.Proofs.YthacjeeafnblmaaGreatDoor
open Go.RowKit Go.Maps Go.Sort Go.WideMaps

theorem box_cell {w : World} {cs : Array Value} {t : TypeId} {j : Nat} {v : Value} (h : cs[j]? = some v) : (w.alloc (.cells cs t)).cell? ⟨w.heap.size, j, none⟩ = some v := cells_of (heap_alloc_new w (.cells cs t)) j v h

theorem num_eq (k : Int) (w : World) : Calls Tryz.prog 13 #[.int .i64 k] w fun e w' => e = .returned (.int .i64 k) ∧ w' = w := by
  go_enter Tryz.func13, Tryz.ntmps13
  go_wp2_with fail
  go_ret
  exact ⟨rfl, rfl⟩

end Go.Proofs.YthacjeeafnblmaaGreatDoor

namespace Go.Proofs.YthacjeeafnblmaaGreatDoor
open Go.RowKit Go.Lib
set_option maxRecDepth 100000

theorem addr_0 (a : Addr) : a.add 0 = a := by
  unfold Addr.add
  split <;> simp_all
theorem stays_grow {w w' : World} (h : Stays (· < w.heap.size) w w') : Grow w w' := h.below
theorem small_a1 : small [⟨false, ⟨#[97]⟩, ⟨#[49]⟩⟩] := ⟨by decide, by decide⟩
theorem room_big : Room 7000 1000 := ⟨by decide, by decide⟩
theorem short_a1 : (frms (recs [⟨false, ⟨#[97]⟩, ⟨#[49]⟩⟩])).length ≤ 100 := by
  have h := fin_length (n := 1) (by decide)
  have e : recs [⟨false, ⟨#[97]⟩, ⟨#[49]⟩⟩] = [pay ⟨false, ⟨#[97]⟩, ⟨#[49]⟩⟩] ++ [fin 1] := rfl
  have h2 : (pay ⟨false, ⟨#[97]⟩, ⟨#[49]⟩⟩).length = 15 := by
    show (112 :: enc [(⟨#[97]⟩ : ByteArray), ⟨#[49]⟩]).length = 15
    rw [List.length_cons, enc2_length]
    rfl
  rw [e, frms_append, List.length_append]
  simp only [frms, List.flatMap_cons, List.flatMap_nil, List.append_nil, frm_length]
  omega

set_option maxHeartbeats 4000000 in
theorem awake_wal (w : World) (ht : Tab w) : Calls Tryz.prog 8 #[] w fun e w' => e = .returned (.bool true) ∧ Below w.heap.size w w' := by
  have HT := Lib.hid ht
  clear ht
  go_enter Tryz.func8, Tryz.ntmps8
  go_wp2_with fail
  refine (new_cd 1000 0 false (.slice none 0 0) (.slice none 0 0) [] [] w (Reads.nil w) (Reads.nil w) (by simp) (by simp)).mono ?_
  rintro e w1 ⟨b, F, rfl, hCD, t1⟩
  obtain ⟨M, hM⟩ : ∃ M, M = MD.new 1000 0 false [] [] := ⟨_, rfl⟩
  rw [← hM] at hCD
  have HS1 : Hid (SolD (· < w.heap.size) w1 w.heap.size b M) := Lib.hid ⟨fun k hk => Nat.lt_of_lt_of_le hk t1.size, F, hCD, fun k hk hx => by have := (hCD.lt k hk).1; exact absurd hx (by omega)⟩
  have HW1 : Hid (Well 7000 M 0) := Lib.hid (by rw [hM]; exact well_new _ _ _ _ _ _ (by decide) (by simp) (by simp))
  have hO : openP M = ⟨0, { M with n := M.n + 1 + 1, fs := [(logK, [], 0)] }, 0, []⟩ := opens_new (by rw [hM]; rfl) (by rw [hM]; rfl) (by rw [hM]; decide) (by rw [hM]; rfl) (by rw [hM]; decide) (by rw [hM]; rfl)
  have HG1 := Lib.hid (turn_grow t1)
  have HO := Lib.hid (And.intro hO hM)
  clear hCD t1 hO hM
  have C1 := sol_open HS1.out (TabAt.mk HT.out HG1.out (Nat.le_refl _)) HW1.out (by decide) room_big (by rw [HO.out.1])
  unfold theDisk at C1 ⊢
  go_wp2_with fail
  refine C1.mono ?_
  rintro e w2 ⟨q, ao, jn, c, lo, hi, rfl, hS, hB, hst⟩
  obtain ⟨L, hL⟩ : ∃ L : List Opm, L = [⟨false, ⟨#[97]⟩, ⟨#[49]⟩⟩] := ⟨_, rfl⟩
  obtain ⟨M2, hM2⟩ : ∃ M2, M2 = (openP M).M := ⟨_, rfl⟩
  have hcalm : Calm M2 [] 0 := by rw [hM2, HO.out.1]; exact ⟨by rw [HO.out.2]; rfl, by rw [HO.out.2]; decide, by rw [HO.out.2]; rfl, rfl⟩
  have hcap : M2.cap = 1000 := by rw [hM2, HO.out.1, HO.out.2]; rfl
  have hn0 : (openP M).n = 0 := by rw [HO.out.1]
  have hW2 : Well 7000 M2 3 := by rw [hM2]; exact well_open HW1.out
  rw [← hM2, hn0] at hS
  have hj0 : jn = 0 := by have := hB.1; rw [HO.out.1] at this; exact this
  subst hj0
  have HS2 := Lib.hid (hS.less (Y := (· < w.heap.size)) fun k hk => .inl hk)
  have HG2 : Hid (Grow w w2) := Lib.hid (Below.trans HG1.out hst.below)
  have HM2 := Lib.hid (And.intro hcalm (And.intro hcap hW2))
  have HL := Lib.hid hL
  clear hS hB hst C1 HS1 HW1 HO HG1 hM2 hcalm hcap hn0 hW2
  go_wp2_with (go_at_call 13; refine (num1_any _ _).mono ?_; rintro e w' ⟨rfl, rfl⟩)
  obtain ⟨X, hX⟩ : ∃ X, X = w2.alloc (.cells (ov ⟨false, ⟨#[97]⟩, ⟨#[49]⟩⟩).toArray 68) := ⟨_, rfl⟩
  have eX : w2.alloc (Obj.cells #[Value.bool false, Value.string { data := #[97] }, Value.string { data := #[49] }] 68) = X := hX.symm
  have tX : Turn [] w2 X := by rw [hX]; exact (Turn.refl [] w2).alloc _
  have hOX : Opr X (.slice (some ⟨w2.heap.size, 0, none⟩) 1 1) 1 L := by rw [hX, HL.out]; exact Opr.lit w2 ⟨false, ⟨#[97]⟩, ⟨#[49]⟩⟩ ⟨by unfold maxLen; decide, by unfold maxLen; decide⟩
  rw [eX]
  have hsm : small L := by rw [HL.out]; exact small_a1
  have hsh : (frms (recs L)).length ≤ 100 := by rw [HL.out]; exact short_a1
  have C2 := sol_commit (HS2.out.new tX) (HT.out.later (HG2.out.trans (turn_grow tX))) hOX hsm.1 HM2.out.2.2 (by decide) room_big (by omega) (by decide)
  obtain ⟨d1, d2, d3, d4, d5⟩ := HM2.out.1.commits (L := L) hsm.2 (by rw [HM2.out.2.1]; simp; omega) 0
  rw [d1, d2, d3] at C2
  obtain ⟨M3, hM3⟩ : ∃ M3, M3 = (commitP M2 0 false L).M := ⟨_, rfl⟩
  rw [← hM3] at d4 d5 C2
  have hW3 : Well 7000 M3 6 := by rw [hM3]; exact well_commit HM2.out.2.2 0 false L (by omega)
  have HGX : Hid (Grow w X) := Lib.hid (HG2.out.trans (turn_grow tX))
  have HM3 := Lib.hid (And.intro d4 (And.intro d5 hW3))
  have HSM := Lib.hid (And.intro hsm hsh)
  clear hX eX tX hOX hsm hsh d1 d2 d3 d4 d5 hM3 hW3 HS2 HG2 HM2
  refine C2.mono ?_
  rintro e w3 ⟨rfl, hS, hst⟩
  have HG3 : Hid (Grow w w3) := Lib.hid (Below.trans HGX.out hst.below)
  have HS3 := Lib.hid hS
  obtain ⟨x, hx⟩ : ∃ x, x = frms (recs L) := ⟨_, rfl⟩
  have hfull := bats_full (LL := [L]) (fun L' h => by rw [List.mem_singleton.1 h]; exact HSM.out.1)
  rw [EB_one, ← hx] at hfull
  have hcalm := HM3.out.1
  rw [List.nil_append, ← hx] at hcalm
  obtain ⟨d1, d2, d3, d4, d5⟩ := hcalm.opens (by rw [hfull.2]; exact Nat.le_refl _)
  have C3 := sol_open HS3.out.disk (TabAt.mk HT.out HG3.out (Nat.le_refl _)) HM3.out.2.2 (by decide) room_big d1
  rw [d3, hfull.1] at C3
  clear hS hst C2 hcalm d1 d2 d3 d4 d5 hfull hx
  unfold theDisk at C3
  go_wp2_with fail
  refine C3.mono ?_
  rintro e w4 ⟨q4, ao4, jn, c4, lo4, hi4, rfl, _, hB, hst⟩
  have hj1 : jn = 1 := hB.1
  subst hj1
  obtain ⟨a, L', ap, cp, rfl, hL', hc, _⟩ := hB.obs.at (k := 0) (by decide)
  have hL1 : L'.length = 1 := by
    have : L = L' := by simpa using hL'
    rw [← this, HL.out]
    rfl
  rw [hL1, addr_0] at hc
  have HG4 : Hid (Grow w w4) := Lib.hid (Below.trans HG3.out hst.below)
  clear hB hst hL' C3
  go_wp2_with (go_at_call 13; refine (num1_any _ _).mono ?_; rintro e w' ⟨rfl, rfl⟩)
  go_ret
  exact ⟨rfl, HG4.out⟩

end Go.Proofs.YthacjeeafnblmaaGreatDoor
