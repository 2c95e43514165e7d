/- Lists of lists of ops in blocks of a range. Numbers and types by name. -/
import Derived.Test.YthacjeeafnblmaaDoorCub
import Derived.Test.YthacjeeafnblmaaDoorRdc
import Derived.Test.YthacjeeafnblmaaDoorBeg
/- The reference's Replay. Numbers and types by name. -/
namespace Go.Proofs.YthacjeeafnblmaaDoor
open Go.RowKit Go.Lib

theorem Cells.grown {w w' : World} {v : Value} {size n : Nat} {xs : List Value} {row : Option Nat} (h : Cells w v size n xs) (hg : w.grownBy w' row) (hne : ∀ a n c, v = .slice (some a) n c → some a.block ≠ row) : Cells w' v size n xs := by
  obtain ⟨ao, cap, rfl, h0, h1, h2, h3⟩ := h
  refine ⟨ao, cap, rfl, h0, h1, h2, fun a ha j u hj => ?_⟩
  have := h3 a ha j u hj
  have hb : (a.add j).block = a.block := by unfold Addr.add; split <;> rfl
  exact hg.cell this (by rw [hb]; exact hne a _ _ (by rw [ha]))
theorem Opr.grown {w w' : World} {v : Value} {n : Nat} {L : List Opm} {row : Option Nat} (h : Opr w v n L) (hg : w.grownBy w' row) (hne : ∀ a n c, v = .slice (some a) n c → some a.block ≠ row) : Opr w' v n L := ⟨h.1, h.2.1, h.2.2.1.grown hg hne, h.2.2.2⟩
theorem OpVals.grown {w w' : World} {vs : List Value} {LL : List (List Opm)} {row : Option Nat} (h : OpVals w vs LL) (hg : w.grownBy w' row) (hne : ∀ u ∈ vs, ∀ a n c, u = .slice (some a) n c → some a.block ≠ row) : OpVals w' vs LL :=
  ⟨h.1, fun j L hj => by
    obtain ⟨ao, c, e1, e2⟩ := h.2 j L hj
    exact ⟨ao, c, e1, e2.grown hg (hne _ (List.mem_of_getElem? e1))⟩⟩

/-- The batches that are whole, and the ops since. -/
def Batch (w : World) (base : Nat) (lv nv : Value) (j m : Nat) (done : List (List Opm)) (now : List Opm) (vs : List Value) : Prop :=
  j = done.length ∧ m = now.length ∧ w.ownsRow base 22 1 lv j vs ∧ OpVals w vs done ∧ (∀ u ∈ vs, ∀ a n c, u = .slice (some a) n c → a.block < w.heap.size ∧ some a.block ≠ lv.ownBlock ∧ some a.block ≠ nv.ownBlock ∧ base ≤ a.block) ∧
    w.ownsRow base 47 3 nv m (ovs now) ∧ ∀ o ∈ now, o.key.size ≤ maxLen ∧ o.val.size ≤ maxLen

theorem Batch.later {w w' : World} {base : Nat} {lv nv : Value} {j m : Nat} {done : List (List Opm)} {now : List Opm} {vs : List Value} (h : Batch w base lv nv j m done now vs) (hg : Grow w w') : Batch w' base lv nv j m done now vs := by
  obtain ⟨h1, h2, h3, h4, h5, h6, h7⟩ := h
  exact ⟨h1, h2, owns_below h3 hg (Nat.le_refl _), h4.later hg, fun u hu a n c e => ⟨Nat.lt_of_lt_of_le (h5 u hu a n c e).1 hg.size, (h5 u hu a n c e).2⟩, owns_below h6 hg (Nat.le_refl _), h7⟩

theorem Batch.nil (w : World) (base : Nat) : Batch w base (.slice none 0 0) (.slice none 0 0) 0 0 [] [] [] :=
  ⟨rfl, rfl, World.ownsRow_nil _ _ _ _, ⟨rfl, fun j p h => by cases h⟩, (fun u hu => by cases hu), World.ownsRow_nil _ _ _ _, fun o h => by cases h⟩

theorem Batch.op {w w' : World} {base : Nat} {lv nv nv' : Value} {j m : Nat} {done : List (List Opm)} {now : List Opm} {vs : List Value} (h : Batch w base lv nv j m done now vs) (o : Opm) (ho : o.key.size ≤ maxLen ∧ o.val.size ≤ maxLen)
    (hn : w'.ownsRow base 47 3 nv' (m + 1) (ovs now ++ ov o)) (hg : w.grownBy w' nv.ownBlock) (hb : nv'.ownBlock = nv.ownBlock ∨ nv'.ownBlock = some w.heap.size) : Batch w' base lv nv' j (m + 1) done (now ++ [o]) vs := by
  obtain ⟨h1, h2, h3, h4, h5, h6, h7⟩ := h
  have hap := owns_apart h3 h6 (by decide)
  refine ⟨h1, by rw [h2, List.length_append]; rfl, owns_grown h3 hg (fun g hv => hap g hv), h4.grown hg (fun u hu a n c e => (h5 u hu a n c e).2.2.1), fun u hu a n c e => ?_, ?_, fun p hp => ?_⟩
  · obtain ⟨x1, x2, x3, x4⟩ := h5 u hu a n c e
    refine ⟨Nat.lt_of_lt_of_le x1 hg.size, x2, ?_, x4⟩
    rcases hb with hb | hb <;> rw [hb]
    · exact x3
    · intro e; simp only [Option.some.injEq] at e; omega
  · have : ovs (now ++ [o]) = ovs now ++ ov o := by simp [ovs]
    rw [this]; exact hn
  · rcases List.mem_append.1 hp with hp | hp
    · exact h7 p hp
    · rw [List.mem_singleton.1 hp]; exact ho

theorem Batch.now {w : World} {base : Nat} {lv nv : Value} {j m : Nat} {done : List (List Opm)} {now : List Opm} {vs : List Value} (h : Batch w base lv nv j m done now vs) (hm : m ≤ maxLen) : Opr w nv m now :=
  ⟨h.2.1, hm, Cells.own h.2.2.2.2.2.1 (by decide), h.2.2.2.2.2.2⟩

theorem Batch.done {w w' : World} {base : Nat} {lv lv' nv : Value} {j m : Nat} {done : List (List Opm)} {now : List Opm} {vs : List Value} (h : Batch w base lv nv j m done now vs) (hm : m ≤ maxLen)
    (hl : w'.ownsRow base 22 1 lv' (j + 1) (vs ++ [nv])) (hg : w.grownBy w' lv.ownBlock) (hb : lv'.ownBlock = lv.ownBlock ∨ lv'.ownBlock = some w.heap.size) : Batch w' base lv' (.slice none 0 0) (j + 1) 0 (done ++ [now]) [] (vs ++ [nv]) := by
  have hnow := h.now hm
  obtain ⟨h1, h2, h3, h4, h5, h6, h7⟩ := h
  have hap := owns_apart h6 h3 (by decide)
  have hne : ∀ a n c, nv = .slice (some a) n c → a.block < w.heap.size ∧ some a.block ≠ lv.ownBlock ∧ base ≤ a.block := fun a n c e => by
    have hown : nv.ownBlock = some a.block := by rw [e]; rfl
    exact ⟨(h6.lt _ hown).2, fun e2 => hap _ hown e2.symm, (h6.lt _ hown).1⟩
  refine ⟨by rw [h1, List.length_append]; rfl, rfl, hl, ⟨by rw [List.length_append, List.length_append, h4.1]; rfl, fun i L hi => ?_⟩, fun u hu a n c e => ?_, World.ownsRow_nil _ _ _ _, fun o h => by cases h⟩
  · have h4' := h4.grown hg (fun u hu a n c e => (h5 u hu a n c e).2.1)
    by_cases hlt : i < done.length
    · rw [List.getElem?_append_left hlt] at hi
      rw [List.getElem?_append_left (by rw [h4.1]; exact hlt)]
      exact h4'.2 i L hi
    · have hi2 := (List.getElem?_eq_some_iff.1 hi).1
      rw [List.length_append, List.length_singleton] at hi2
      obtain rfl : i = done.length := by omega
      rw [List.getElem?_append_right (Nat.le_refl _), Nat.sub_self] at hi
      obtain rfl : now = L := by simpa using hi
      obtain ⟨ao, c, hs⟩ := hnow.shape
      refine ⟨ao, c, ?_, ?_⟩
      · rw [List.getElem?_append_right (by rw [h4.1]; omega), h4.1, Nat.sub_self, ← h2, ← hs]; rfl
      · rw [← h2, ← hs]
        exact hnow.grown hg (fun a n c e => (hne a n c e).2.1)
  · have key : a.block < w.heap.size ∧ some a.block ≠ lv.ownBlock ∧ base ≤ a.block := by
      rcases List.mem_append.1 hu with hu | hu
      · exact ⟨(h5 u hu a n c e).1, (h5 u hu a n c e).2.1, (h5 u hu a n c e).2.2.2⟩
      · rw [List.mem_singleton.1 hu] at e; exact hne a n c e
    refine ⟨Nat.lt_of_lt_of_le key.1 hg.size, ?_, by show some a.block ≠ none; simp, key.2.2⟩
    rcases hb with hb | hb <;> rw [hb]
    · exact key.2.1
    · intro e; have := key.1; simp only [Option.some.injEq] at e; omega

/-- What Replay leaves. -/
def ReplayDone (ps : List (List UInt8)) (w : World) (e : Ending) (w' : World) : Prop :=
  Below w.heap.size w w' ∧ ∃ LL u ao j c, play ps 0 [] [] 0 = (LL, u) ∧ u ≤ ps.length ∧ LL.length ≤ ps.length ∧ e = .returned (.tuple #[.slice ao j c, .int .i64 ((u : Nat) : Int)]) ∧ Obs w' (.slice ao j c) j LL

/-- A list of lists of ops in memory that is all new. -/
def ObsF (w : World) (base : Nat) (v : Value) (n : Nat) (LL : List (List Opm)) : Prop :=
  n = LL.length ∧ n ≤ maxLen ∧ ∃ vs : List Value, w.ownsRow base 22 1 v n vs ∧ OpVals w vs LL ∧ ∀ u ∈ vs, ∀ a n c, u = .slice (some a) n c → base ≤ a.block ∧ a.block < w.heap.size
theorem ObsF.obs {w : World} {base : Nat} {v : Value} {n : Nat} {LL : List (List Opm)} (h : ObsF w base v n LL) : Obs w v n LL := by
  obtain ⟨h1, h2, vs, h3, h4, _⟩ := h
  have hl : vs.length = n := by have := h3.1; omega
  exact ⟨h1, h2, vs, Reads.own (by rw [hl]; exact h3), hl, h4⟩

/-- What Replay leaves: in memory that is all new. -/
def ReplayFrom (ps : List (List UInt8)) (w : World) (e : Ending) (w' : World) : Prop :=
  Below w.heap.size w w' ∧ ∃ LL u ao j c, play ps 0 [] [] 0 = (LL, u) ∧ u ≤ ps.length ∧ LL.length ≤ ps.length ∧ e = .returned (.tuple #[.slice ao j c, .int .i64 ((u : Nat) : Int)]) ∧ ObsF w' w.heap.size (.slice ao j c) j LL
theorem ReplayFrom.done {ps : List (List UInt8)} {w : World} {e : Ending} {w' : World} (h : ReplayFrom ps w e w') : ReplayDone ps w e w' := by
  obtain ⟨h1, LL, u, ao, j, c, h2, h3, h4, h5, h6⟩ := h
  exact ⟨h1, LL, u, ao, j, c, h2, h3, h4, h5, h6.obs⟩

/-- What is known at a round's beginning. -/
def ReplayAt (ps : List (List UInt8)) (w wr : World) (lv nv : Value) (k j m u : Nat) (done : List (List Opm)) (now : List Opm) (vs : List Value) : Prop :=
  Batch wr w.heap.size lv nv j m done now vs ∧ Below w.heap.size w wr ∧ play ps 0 [] [] 0 = play (ps.drop k) k done now u ∧ u ≤ k ∧ j ≤ k ∧ m ≤ k ∧ k ≤ ps.length

theorem replay_stops {ps : List (List UInt8)} {w wr : World} {lv nv : Value} {k j m u : Nat} {done : List (List Opm)} {now : List Opm} {vs : List Value} (h : ReplayAt ps w wr lv nv k j m u done now vs) (hs : ps.drop k = [] ∨ ∃ p, ps[k]? = some p ∧ what p now.length = .stop) (hb : ps.length ≤ maxLen) (w' : World) (hg : Grow wr w') :
    ReplayFrom ps w (.returned (.tuple #[lv, .int .i64 (u : Int)])) w' := by
  obtain ⟨hB, hbel, hp, hu, hj, hm, hk⟩ := h
  have h1 : play (ps.drop k) k done now u = (done, u) := by
    rcases hs with hs | ⟨p, hp, hw⟩
    · rw [hs, play]
    · have hlt := (List.getElem?_eq_some_iff.1 hp).1
      have e : ps.drop k = p :: ps.drop (k + 1) := by
        rw [List.drop_eq_getElem_cons hlt]
        congr 1
        rw [List.getElem?_eq_getElem hlt] at hp
        exact Option.some.inj hp
      rw [e, play_stop hw]
  have hB' := hB.later hg
  obtain ⟨x1, x2, x3, x4, x5, _⟩ := hB'
  obtain ⟨ao, c, rfl⟩ := owns_shape x3
  exact ⟨hbel.trans (hg.mono hbel.size), done, u, ao, j, c, by rw [hp, h1], by omega, by omega, rfl, x1, by omega, vs, x3, x4, fun u hu a n c e => ⟨(x5 u hu a n c e).2.2.2, (x5 u hu a n c e).1⟩⟩

theorem drop_at {α : Type} {ps : List α} {k : Nat} {p : α} (hp : ps[k]? = some p) : ps.drop k = p :: ps.drop (k + 1) := by
  have hlt := (List.getElem?_eq_some_iff.1 hp).1
  rw [List.drop_eq_getElem_cons hlt]
  congr 1
  rw [List.getElem?_eq_getElem hlt] at hp
  exact Option.some.inj hp

theorem replay_op {ps : List (List UInt8)} {w wr w' : World} {lv nv nv' : Value} {k j m u : Nat} {done : List (List Opm)} {now : List Opm} {vs : List Value} {p : List UInt8} {o : Opm} (h : ReplayAt ps w wr lv nv k j m u done now vs) (hp : ps[k]? = some p) (hw : what p now.length = .op o)
    (hB : Batch w' w.heap.size lv nv' j (m + 1) done (now ++ [o]) vs) (hbel : Below w.heap.size w w') : ReplayAt ps w w' lv nv' (k + 1) j (m + 1) u done (now ++ [o]) vs := by
  obtain ⟨_, _, h3, h4, h5, h6, _⟩ := h
  refine ⟨hB, hbel, ?_, by omega, by omega, by omega, (List.getElem?_eq_some_iff.1 hp).1⟩
  rw [h3, drop_at hp, play_op hw]
theorem replay_done {ps : List (List UInt8)} {w wr w' : World} {lv lv' nv : Value} {k j m u : Nat} {done : List (List Opm)} {now : List Opm} {vs : List Value} {p : List UInt8} (h : ReplayAt ps w wr lv nv k j m u done now vs) (hp : ps[k]? = some p) (hw : what p now.length = .done)
    (hB : Batch w' w.heap.size lv' (.slice none 0 0) (j + 1) 0 (done ++ [now]) [] (vs ++ [nv])) (hbel : Below w.heap.size w w') : ReplayAt ps w w' lv' (.slice none 0 0) (k + 1) (j + 1) 0 (k + 1) (done ++ [now]) [] (vs ++ [nv]) := by
  obtain ⟨_, _, h3, h4, h5, h6, _⟩ := h
  refine ⟨hB, hbel, ?_, by omega, by omega, by omega, (List.getElem?_eq_some_iff.1 hp).1⟩
  rw [h3, drop_at hp, play_done hw]

theorem ov_one (o : Opm) : ∀ u ∈ ov o, u.oneCell' = true := by
  intro u hu
  simp only [ov, List.mem_cons, List.not_mem_nil, or_false] at hu
  rcases hu with rfl | rfl | rfl <;> rfl

theorem what_none {p : List UInt8} (n : Nat) (h : p = [] ∨ ∃ k r, p = k :: r ∧ dec r = none) : what p n = .stop := by
  rcases h with rfl | ⟨k, r, rfl, h⟩
  · rfl
  · unfold what; simp [h]
theorem what_some {p : List UInt8} {k : UInt8} {r : List UInt8} {t : List ByteArray} (n : Nat) (h : p = k :: r) (ht : dec r = some t) : what p n = isWhat k t n := by
  subst h; unfold what; simp [ht]

end Go.Proofs.YthacjeeafnblmaaDoor

namespace Go.Proofs.YthacjeeafnblmaaDoor
open Go.RowKit Go.Lib

/-- A list of lists of ops that lies in blocks of a range alone. -/
def ObsB (w : World) (lo hi : Nat) (v : Value) (n : Nat) (LL : List (List Opm)) : Prop :=
  n = LL.length ∧ n ≤ maxLen ∧ ∃ vs : List Value, Reads w v vs ∧ vs.length = n ∧ OpVals w vs LL ∧ (∀ a n c, v = .slice (some a) n c → lo ≤ a.block ∧ a.block < hi) ∧ ∀ u ∈ vs, ∀ a n c, u = .slice (some a) n c → lo ≤ a.block ∧ a.block < hi

theorem ObsB.obs {w : World} {lo hi : Nat} {v : Value} {n : Nat} {LL : List (List Opm)} (h : ObsB w lo hi v n LL) : Obs w v n LL := by
  obtain ⟨h1, h2, vs, h3, h4, h5, _⟩ := h
  exact ⟨h1, h2, vs, h3, h4, h5⟩
theorem ObsB.shape {w : World} {lo hi : Nat} {v : Value} {n : Nat} {LL : List (List Opm)} (h : ObsB w lo hi v n LL) : ∃ ao c, v = .slice ao n c := h.obs.shape
theorem ObsB.nil (w : World) (lo hi : Nat) : ObsB w lo hi (.slice none 0 0) 0 [] :=
  ⟨rfl, Nat.zero_le _, [], Reads.nil w, rfl, ⟨rfl, (fun j p h => by cases h)⟩, (fun a n c e => by cases e), (fun u hu => by cases hu)⟩
theorem ObsF.between {w : World} {base : Nat} {v : Value} {n : Nat} {LL : List (List Opm)} (h : ObsF w base v n LL) : ObsB w base w.heap.size v n LL := by
  obtain ⟨h1, h2, vs, h3, h4, h5⟩ := h
  have hl : vs.length = n := by have := h3.1; omega
  refine ⟨h1, h2, vs, Reads.own (by rw [hl]; exact h3), hl, h4, fun a n c e => ?_, h5⟩
  have hown : v.ownBlock = some a.block := by rw [e]; rfl
  exact h3.lt _ hown

theorem add_block (a : Addr) (j : Nat) : (a.add j).block = a.block := by unfold Addr.add; split <;> rfl
theorem Cells.turn {w w' : World} {v : Value} {size n : Nat} {xs : List Value} {H : List Nat} (h : Cells w v size n xs) (t : Turn H w w') (hH : ∀ a n c, v = .slice (some a) n c → a.block ∉ H) : Cells w' v size n xs := by
  obtain ⟨ao, cap, rfl, h0, h1, h2, h3⟩ := h
  refine ⟨ao, cap, rfl, h0, h1, h2, fun a ha j u hj => ?_⟩
  have hc := h3 a ha j u hj
  rw [World.cell?_of_block (t.block _ (World.block_lt_of_cell? w _ hc) (by rw [add_block]; exact hH a _ _ (by rw [ha])))]
  exact hc
theorem ObsB.turn {w w' : World} {lo hi : Nat} {v : Value} {n : Nat} {LL : List (List Opm)} {H : List Nat} (h : ObsB w lo hi v n LL) (t : Turn H w w') (hH : ∀ k ∈ H, k < lo ∨ hi ≤ k) : ObsB w' lo hi v n LL := by
  obtain ⟨h1, h2, vs, h3, h4, h5, h6, h7⟩ := h
  refine ⟨h1, h2, vs, ?_, h4, ⟨h5.1, fun j L hj => ?_⟩, h6, h7⟩
  · obtain ⟨ao, c, e, g0, g1, g2⟩ := h3
    refine ⟨ao, c, e, g0, g1, fun a ha j u hj => ?_⟩
    have hc := g2 a ha j u hj
    refine (World.cell?_of_block (t.block _ (World.block_lt_of_cell? w _ hc) fun hm => ?_)).trans hc
    rw [add_block] at hm
    have := h6 a _ _ (by rw [e, ha])
    have := hH _ hm
    omega
  · obtain ⟨ao, c, e1, e2⟩ := h5.2 j L hj
    refine ⟨ao, c, e1, e2.1, e2.2.1, e2.2.2.1.turn t fun a n c e hm => ?_, e2.2.2.2⟩
    have := h7 _ (List.mem_of_getElem? e1) a n c e
    have := hH _ hm
    omega

end Go.Proofs.YthacjeeafnblmaaDoor
