/- The reference's Replay. Numbers and types by name. -/
import Derived.Test.YthcdkggkoanjpaaGreatDoorCop
import Derived.Test.YthcdkggkoanjpaaGreatDoorGen
import Derived.Test.YthcdkggkoanjpaaGreatDoorCuf
import Derived.Test.YthcdkggkoanjpaaGreatDoorNum
namespace Go.Proofs.YthcdkggkoanjpaaGreatDoor
open Go.RowKit Go.Lib
theorem Cells.grown {w w' : World} {v : Value} {size n : Nat} {xs : List Value} {row : Option Nat} (h : Cells w v size n xs) (hg : w.grownBy w' row) (hne : ∀ a n c, v = .slice (some a) n c → some a.block ≠ row) : Cells w' v size n xs := by
  obtain ⟨ao, cap, rfl, h0, h1, h2, h3⟩ := h
  refine ⟨ao, cap, rfl, h0, h1, h2, fun a ha j u hj => ?_⟩
  have := h3 a ha j u hj
  have hb : (a.add j).block = a.block := by unfold Addr.add; split <;> rfl
  exact hg.cell this (by rw [hb]; exact hne a _ _ (by rw [ha]))
theorem Opr.grown {w w' : World} {v : Value} {n : Nat} {L : List Opm} {row : Option Nat} (h : Opr w v n L) (hg : w.grownBy w' row) (hne : ∀ a n c, v = .slice (some a) n c → some a.block ≠ row) : Opr w' v n L := ⟨h.1, h.2.1, h.2.2.1.grown hg hne, h.2.2.2⟩
theorem OpVals.grown {w w' : World} {vs : List Value} {LL : List (List Opm)} {row : Option Nat} (h : OpVals w vs LL) (hg : w.grownBy w' row) (hne : ∀ u ∈ vs, ∀ a n c, u = .slice (some a) n c → some a.block ≠ row) : OpVals w' vs LL :=
  ⟨h.1, fun j L hj => by
    obtain ⟨ao, c, e1, e2⟩ := h.2 j L hj
    exact ⟨ao, c, e1, e2.grown hg (hne _ (List.mem_of_getElem? e1))⟩⟩
def Batch (w : World) (base : Nat) (lv nv : Value) (j m : Nat) (done : List (List Opm)) (now : List Opm) (vs : List Value) : Prop :=
  j = done.length ∧ m = now.length ∧ w.ownsRow base 52 1 lv j vs ∧ OpVals w vs done ∧ (∀ u ∈ vs, ∀ a n c, u = .slice (some a) n c → a.block < w.heap.size ∧ some a.block ≠ lv.ownBlock ∧ some a.block ≠ nv.ownBlock ∧ base ≤ a.block) ∧
    w.ownsRow base 65 3 nv m (ovs now) ∧ ∀ o ∈ now, o.key.size ≤ maxLen ∧ o.val.size ≤ maxLen
theorem Batch.later {w w' : World} {base : Nat} {lv nv : Value} {j m : Nat} {done : List (List Opm)} {now : List Opm} {vs : List Value} (h : Batch w base lv nv j m done now vs) (hg : Grow w w') : Batch w' base lv nv j m done now vs := by
  obtain ⟨h1, h2, h3, h4, h5, h6, h7⟩ := h
  exact ⟨h1, h2, owns_below h3 hg (Nat.le_refl _), h4.later hg, fun u hu a n c e => ⟨Nat.lt_of_lt_of_le (h5 u hu a n c e).1 hg.size, (h5 u hu a n c e).2⟩, owns_below h6 hg (Nat.le_refl _), h7⟩
theorem Batch.nil (w : World) (base : Nat) : Batch w base (.slice none 0 0) (.slice none 0 0) 0 0 [] [] [] :=
  ⟨rfl, rfl, World.ownsRow_nil _ _ _ _, ⟨rfl, fun j p h => by cases h⟩, (fun u hu => by cases hu), World.ownsRow_nil _ _ _ _, fun o h => by cases h⟩
theorem Batch.op {w w' : World} {base : Nat} {lv nv nv' : Value} {j m : Nat} {done : List (List Opm)} {now : List Opm} {vs : List Value} (h : Batch w base lv nv j m done now vs) (o : Opm) (ho : o.key.size ≤ maxLen ∧ o.val.size ≤ maxLen)
    (hn : w'.ownsRow base 65 3 nv' (m + 1) (ovs now ++ ov o)) (hg : w.grownBy w' nv.ownBlock) (hb : nv'.ownBlock = nv.ownBlock ∨ nv'.ownBlock = some w.heap.size) : Batch w' base lv nv' j (m + 1) done (now ++ [o]) vs := by
  obtain ⟨h1, h2, h3, h4, h5, h6, h7⟩ := h
  have hap := owns_apart h3 h6 (by decide)
  refine ⟨h1, by rw [h2, List.length_append]; rfl, owns_grown h3 hg (fun g hv => hap g hv), h4.grown hg (fun u hu a n c e => (h5 u hu a n c e).2.2.1), fun u hu a n c e => ?_, ?_, fun p hp => ?_⟩
  · obtain ⟨x1, x2, x3, x4⟩ := h5 u hu a n c e
    refine ⟨Nat.lt_of_lt_of_le x1 hg.size, x2, ?_, x4⟩
    rcases hb with hb | hb <;> rw [hb]
    · exact x3
    · intro e; simp only [Option.some.injEq] at e; omega
  · have : ovs (now ++ [o]) = ovs now ++ ov o := by simp [ovs]
    rw [this]; exact hn
  · rcases List.mem_append.1 hp with hp | hp
    · exact h7 p hp
    · rw [List.mem_singleton.1 hp]; exact ho
theorem Batch.now {w : World} {base : Nat} {lv nv : Value} {j m : Nat} {done : List (List Opm)} {now : List Opm} {vs : List Value} (h : Batch w base lv nv j m done now vs) (hm : m ≤ maxLen) : Opr w nv m now :=
  ⟨h.2.1, hm, Cells.own h.2.2.2.2.2.1 (by decide), h.2.2.2.2.2.2⟩
theorem Batch.done {w w' : World} {base : Nat} {lv lv' nv : Value} {j m : Nat} {done : List (List Opm)} {now : List Opm} {vs : List Value} (h : Batch w base lv nv j m done now vs) (hm : m ≤ maxLen)
    (hl : w'.ownsRow base 52 1 lv' (j + 1) (vs ++ [nv])) (hg : w.grownBy w' lv.ownBlock) (hb : lv'.ownBlock = lv.ownBlock ∨ lv'.ownBlock = some w.heap.size) : Batch w' base lv' (.slice none 0 0) (j + 1) 0 (done ++ [now]) [] (vs ++ [nv]) := by
  have hnow := h.now hm
  obtain ⟨h1, h2, h3, h4, h5, h6, h7⟩ := h
  have hap := owns_apart h6 h3 (by decide)
  have hne : ∀ a n c, nv = .slice (some a) n c → a.block < w.heap.size ∧ some a.block ≠ lv.ownBlock ∧ base ≤ a.block := fun a n c e => by
    have hown : nv.ownBlock = some a.block := by rw [e]; rfl
    exact ⟨(h6.lt _ hown).2, fun e2 => hap _ hown e2.symm, (h6.lt _ hown).1⟩
  refine ⟨by rw [h1, List.length_append]; rfl, rfl, hl, ⟨by rw [List.length_append, List.length_append, h4.1]; rfl, fun i L hi => ?_⟩, fun u hu a n c e => ?_, World.ownsRow_nil _ _ _ _, fun o h => by cases h⟩
  · have h4' := h4.grown hg (fun u hu a n c e => (h5 u hu a n c e).2.1)
    by_cases hlt : i < done.length
    · rw [List.getElem?_append_left hlt] at hi
      rw [List.getElem?_append_left (by rw [h4.1]; exact hlt)]
      exact h4'.2 i L hi
    · have hi2 := (List.getElem?_eq_some_iff.1 hi).1
      rw [List.length_append, List.length_singleton] at hi2
      obtain rfl : i = done.length := by omega
      rw [List.getElem?_append_right (Nat.le_refl _), Nat.sub_self] at hi
      obtain rfl : now = L := by simpa using hi
      obtain ⟨ao, c, hs⟩ := hnow.shape
      refine ⟨ao, c, ?_, ?_⟩
      · rw [List.getElem?_append_right (by rw [h4.1]; omega), h4.1, Nat.sub_self, ← h2, ← hs]; rfl
      · rw [← h2, ← hs]
        exact hnow.grown hg (fun a n c e => (hne a n c e).2.1)
  · have key : a.block < w.heap.size ∧ some a.block ≠ lv.ownBlock ∧ base ≤ a.block := by
      rcases List.mem_append.1 hu with hu | hu
      · exact ⟨(h5 u hu a n c e).1, (h5 u hu a n c e).2.1, (h5 u hu a n c e).2.2.2⟩
      · rw [List.mem_singleton.1 hu] at e; exact hne a n c e
    refine ⟨Nat.lt_of_lt_of_le key.1 hg.size, ?_, by show some a.block ≠ none; simp, key.2.2⟩
    rcases hb with hb | hb <;> rw [hb]
    · exact key.2.1
    · intro e; have := key.1; simp only [Option.some.injEq] at e; omega
def ObsF (w : World) (base : Nat) (v : Value) (n : Nat) (LL : List (List Opm)) : Prop :=
  n = LL.length ∧ n ≤ maxLen ∧ ∃ vs : List Value, w.ownsRow base 52 1 v n vs ∧ OpVals w vs LL ∧ ∀ u ∈ vs, ∀ a n c, u = .slice (some a) n c → base ≤ a.block ∧ a.block < w.heap.size ∧ some a.block ≠ v.ownBlock
def ReplayFrom (ps : List (List UInt8)) (w : World) (e : Ending) (w' : World) : Prop :=
  Below w.heap.size w w' ∧ ∃ LL u ao j c, play ps 0 [] [] 0 = (LL, u) ∧ u ≤ ps.length ∧ LL.length ≤ ps.length ∧ e = .returned (.tuple #[.slice ao j c, .int .i64 ((u : Nat) : Int)]) ∧ ObsF w' w.heap.size (.slice ao j c) j LL
def ReplayAt (ps : List (List UInt8)) (w wr : World) (lv nv : Value) (k j m u : Nat) (done : List (List Opm)) (now : List Opm) (vs : List Value) : Prop :=
  Batch wr w.heap.size lv nv j m done now vs ∧ Below w.heap.size w wr ∧ play ps 0 [] [] 0 = play (ps.drop k) k done now u ∧ u ≤ k ∧ j ≤ k ∧ m ≤ k ∧ k ≤ ps.length
theorem replay_stops {ps : List (List UInt8)} {w wr : World} {lv nv : Value} {k j m u : Nat} {done : List (List Opm)} {now : List Opm} {vs : List Value} (h : ReplayAt ps w wr lv nv k j m u done now vs) (hs : ps.drop k = [] ∨ ∃ p, ps[k]? = some p ∧ what p now.length = .stop) (hb : ps.length ≤ maxLen) (w' : World) (hg : Grow wr w') :
    ReplayFrom ps w (.returned (.tuple #[lv, .int .i64 (u : Int)])) w' := by
  obtain ⟨hB, hbel, hp, hu, hj, hm, hk⟩ := h
  have h1 : play (ps.drop k) k done now u = (done, u) := by
    rcases hs with hs | ⟨p, hp, hw⟩
    · rw [hs, play]
    · have hlt := (List.getElem?_eq_some_iff.1 hp).1
      have e : ps.drop k = p :: ps.drop (k + 1) := by
        rw [List.drop_eq_getElem_cons hlt]
        congr 1
        rw [List.getElem?_eq_getElem hlt] at hp
        exact Option.some.inj hp
      rw [e, play_stop hw]
  have hB' := hB.later hg
  obtain ⟨x1, x2, x3, x4, x5, _⟩ := hB'
  obtain ⟨ao, c, rfl⟩ := owns_shape x3
  exact ⟨hbel.trans (hg.mono hbel.size), done, u, ao, j, c, by rw [hp, h1], by omega, by omega, rfl, x1, by omega, vs, x3, x4, fun u hu a n c e => ⟨(x5 u hu a n c e).2.2.2, (x5 u hu a n c e).1, (x5 u hu a n c e).2.1⟩⟩
theorem drop_at {α : Type} {ps : List α} {k : Nat} {p : α} (hp : ps[k]? = some p) : ps.drop k = p :: ps.drop (k + 1) := by
  have hlt := (List.getElem?_eq_some_iff.1 hp).1
  rw [List.drop_eq_getElem_cons hlt]
  congr 1
  rw [List.getElem?_eq_getElem hlt] at hp
  exact Option.some.inj hp
theorem replay_op {ps : List (List UInt8)} {w wr w' : World} {lv nv nv' : Value} {k j m u : Nat} {done : List (List Opm)} {now : List Opm} {vs : List Value} {p : List UInt8} {o : Opm} (h : ReplayAt ps w wr lv nv k j m u done now vs) (hp : ps[k]? = some p) (hw : what p now.length = .op o)
    (hB : Batch w' w.heap.size lv nv' j (m + 1) done (now ++ [o]) vs) (hbel : Below w.heap.size w w') : ReplayAt ps w w' lv nv' (k + 1) j (m + 1) u done (now ++ [o]) vs := by
  obtain ⟨_, _, h3, h4, h5, h6, _⟩ := h
  refine ⟨hB, hbel, ?_, by omega, by omega, by omega, (List.getElem?_eq_some_iff.1 hp).1⟩
  rw [h3, drop_at hp, play_op hw]
theorem replay_done {ps : List (List UInt8)} {w wr w' : World} {lv lv' nv : Value} {k j m u : Nat} {done : List (List Opm)} {now : List Opm} {vs : List Value} {p : List UInt8} (h : ReplayAt ps w wr lv nv k j m u done now vs) (hp : ps[k]? = some p) (hw : what p now.length = .done)
    (hB : Batch w' w.heap.size lv' (.slice none 0 0) (j + 1) 0 (done ++ [now]) [] (vs ++ [nv])) (hbel : Below w.heap.size w w') : ReplayAt ps w w' lv' (.slice none 0 0) (k + 1) (j + 1) 0 (k + 1) (done ++ [now]) [] (vs ++ [nv]) := by
  obtain ⟨_, _, h3, h4, h5, h6, _⟩ := h
  refine ⟨hB, hbel, ?_, by omega, by omega, by omega, (List.getElem?_eq_some_iff.1 hp).1⟩
  rw [h3, drop_at hp, play_done hw]
theorem ov_one (o : Opm) : ∀ u ∈ ov o, u.oneCell' = true := by
  intro u hu
  simp only [ov, List.mem_cons, List.not_mem_nil, or_false] at hu
  rcases hu with rfl | rfl | rfl <;> rfl
theorem what_none {p : List UInt8} (n : Nat) (h : p = [] ∨ ∃ k r, p = k :: r ∧ dec r = none) : what p n = .stop := by
  rcases h with rfl | ⟨k, r, rfl, h⟩
  · rfl
  · unfold what; simp [h]
theorem what_some {p : List UInt8} {k : UInt8} {r : List UInt8} {t : List ByteArray} (n : Nat) (h : p = k :: r) (ht : dec r = some t) : what p n = isWhat k t n := by
  subst h; unfold what; simp [ht]
set_option maxHeartbeats 4000000 in
set_option maxRecDepth 20000 in
theorem ref_replay_from (v : Value) (n : Nat) (ps : List (List UInt8)) (w : World) (hr : Rws w v n ps) (hn : n ≤ 900000) :
    Calls Tryz.prog 76 #[v] w (ReplayFrom ps w) := by
  obtain ⟨ao, c, rfl⟩ := hr.shape
  have HR := Lib.hid hr
  clear hr
  go_enter Tryz.func76, Tryz.ntmps76
  go_wp2_with fail
  go_loopw [4, 5, 6, 7] (fun lv nv uv i wr => ∃ (k j m u cl cn : Nat) (al an : Option Addr), k ≤ n ∧ i = .int .i64 k ∧ lv = .slice al j cl ∧ nv = .slice an m cn ∧ uv = .int .i64 u ∧ Hid (∃ done now vs, ReplayAt ps w wr (.slice al j cl) (.slice an m cn) k j m u done now vs))
    (fun _ _ _ i _ => n - (intOf i).toNat)
  case atStart => exact ⟨0, 0, 0, 0, 0, 0, none, none, Nat.zero_le _, rfl, rfl, rfl, rfl, Lib.hid ⟨[], [], [], Batch.nil _ _, Below.refl _ _, by simp, Nat.le_refl _, Nat.le_refl _, Nat.le_refl _, Nat.zero_le _⟩⟩
  case round =>
    obtain ⟨k, j, m, u, cl, cn, al, an, hk, rfl, rfl, rfl, rfl, hrel⟩ := hrel
    obtain ⟨done, now, vs, hat⟩ := hrel.out
    have HAT := Lib.hid hat
    clear hrel
    have hlen : n = ps.length := HR.out.1
    have hm9 : m ≤ k := hat.2.2.2.2.2.1
    by_cases hlt : k < n
    · have h3 : (k : Int) < (n : Int) := by omega
      obtain ⟨a, p, ap, cp, rfl, hp, hc, hrd, hpl⟩ := (HR.out.later hat.2.1).at hlt
      have HP := Lib.hid hp
      have hlen' := Lib.hid hlen
      clear hat hp hlen
      cases p with
      | nil =>
        have HS := fun w' hg => replay_stops HAT.out (.inr ⟨[], HP.out, what_none _ (.inl rfl)⟩) (by rw [← hlen'.out]; unfold maxLen; omega) w' hg
        have HS := Lib.hid HS
        go_wp2_with fail
        go_ret2
        exact HS.out _ (Below.refl _ _)
      | cons x r =>
        obtain ⟨q, hq⟩ : ∃ q, q = r.length + 1 := ⟨_, rfl⟩
        have hpl2 : (x :: r).length = q := by rw [hq]; rfl
        rw [hpl2] at hc hrd hpl
        have hq0 : ¬ (q : Int) = 0 := by omega
        have hq1 : (1 : Int) ≤ (q : Int) := by omega
        obtain ⟨b, rfl⟩ : ∃ b, ap = some b := by
          obtain ⟨ao', c', e, _, hn0, _⟩ := hrd
          cases ap with
          | some b => exact ⟨b, rfl⟩
          | none =>
            simp only [Value.slice.injEq] at e
            have := (hn0 e.1.symm).1
            simp [bv] at this
        have hqc : q ≤ cp := by
          obtain ⟨_, _, e, h0, _⟩ := hrd
          simp only [Value.slice.injEq, bv_length] at e h0
          rw [hpl2] at h0
          omega
        have hx : wr.cell? b = some (.int .u8 (x.toNat : Int)) := by
          obtain ⟨y1, y2, y3, y4, y5⟩ := hrd.byte (k := 0) (by omega)
          simp only [Option.some.injEq] at y3
          subst y3
          simp only [List.getElem?_cons_zero, Option.some.injEq] at y4
          subst y4
          simpa [Addr.add] using y5
        obtain ⟨bz, hbz, jz⟩ : ∃ bz, (if cp = 1 then some b else some { block := b.block, off := b.off + 1 }) = some bz ∧ (bz = b.add 1 ∨ (x :: r).length = 1) := by
          by_cases h : cp = 1
          · exact ⟨b, by rw [if_pos h], .inr (by omega)⟩
          · exact ⟨_, by rw [if_neg h], .inl (by simp [Addr.add])⟩
        have hrd1 : Reads wr (.slice (some bz) (q - 1) (cp - 1)) (bv r) := hrd.drop 1 (by omega) bz jz
        have HQ := Lib.hid hq
        have G := ref_decodeL _ (q - 1) r wr hrd1 (by omega) (Lib.hid (by unfold maxLen at hpl ⊢; omega))
        have hx256 := x.toNat_lt
        clear hrd hrd1 jz hpl2 hq
        unfold maxLen at hpl
        go_wp2_with fail
        refine G.mono ?_
        rintro e w2 ⟨hb2, ⟨T, at_, ct, hT, rfl, hTx⟩ | ⟨hT, rfl⟩⟩
        rotate_left
        · have HS := fun w' hg => replay_stops HAT.out (.inr ⟨x :: r, HP.out, what_none _ (.inr ⟨x, r, rfl, hT⟩)⟩) (by rw [← hlen'.out]; unfold maxLen; omega) w' hg
          have HS := Lib.hid (HS w2 hb2)
          have hc2 := grow_cell hb2 hc
          have hx2 := grow_cell hb2 hx
          clear hc hx hb2 hT G hbz
          go_wp2_with fail
          go_ret2
          exact HS.out
        have hc2 := grow_cell hb2 hc
        have hx2 := grow_cell hb2 hx
        have HW := Lib.hid (what_some now.length (show x :: r = x :: r from rfl) hT)
        have HB := HAT.out.1.later hb2
        have HB2 := Lib.hid (And.intro HB (And.intro hb2 (HAT.out.2.1.trans (hb2.mono HAT.out.2.1.size))))
        have hTm := hTx.2.2.1
        unfold maxLen at hTm
        have HT := Lib.hid hTx
        clear hc hx hb2 hT G hbz HB hTx
        obtain ⟨tn, htn⟩ : ∃ tn, tn = T.length := ⟨_, rfl⟩
        rw [← htn] at hTm ⊢
        have hcase : (x = 112 ∧ ∃ s u, T = [s, u]) ∨ (x = 100 ∧ ∃ s, T = [s]) ∨ (x = 99 ∧ ∃ s, T = [s]) ∨
            (isWhat x T now.length = .stop ∧ (((x.toNat : Int) = 112 ∧ ¬ (tn : Int) = 2) ∨ (¬ (x.toNat : Int) = 112 ∧ (x.toNat : Int) = 100 ∧ ¬ (tn : Int) = 1) ∨ (¬ (x.toNat : Int) = 112 ∧ ¬ (x.toNat : Int) = 100 ∧ (x.toNat : Int) = 99 ∧ ¬ (tn : Int) = 1) ∨ (¬ (x.toNat : Int) = 112 ∧ ¬ (x.toNat : Int) = 100 ∧ ¬ (x.toNat : Int) = 99))) := by
          have xi : ∀ c : UInt8, (x.toNat : Int) = (c.toNat : Int) → x = c := fun c h => UInt8.toNat_inj.1 (by omega)
          by_cases x1 : x = 112
          · subst x1
            match T, htn with
            | [s, u], _ => exact .inl ⟨rfl, s, u, rfl⟩
            | [], h => exact .inr (.inr (.inr ⟨rfl, .inl ⟨rfl, by rw [h]; decide⟩⟩))
            | [s], h => exact .inr (.inr (.inr ⟨rfl, .inl ⟨rfl, by rw [h]; simp⟩⟩))
            | s :: u :: v :: l, h => exact .inr (.inr (.inr ⟨rfl, .inl ⟨rfl, by rw [h]; simp; omega⟩⟩))
          · have y1 : ¬ (x.toNat : Int) = 112 := fun h => x1 (xi 112 h)
            by_cases x2 : x = 100
            · subst x2
              match T, htn with
              | [s], _ => exact .inr (.inl ⟨rfl, s, rfl⟩)
              | [], h => exact .inr (.inr (.inr ⟨rfl, .inr (.inl ⟨y1, rfl, by rw [h]; decide⟩)⟩))
              | [s, u], h => exact .inr (.inr (.inr ⟨rfl, .inr (.inl ⟨y1, rfl, by rw [h]; simp⟩)⟩))
              | s :: u :: v :: l, h => exact .inr (.inr (.inr ⟨rfl, .inr (.inl ⟨y1, rfl, by rw [h]; simp; omega⟩)⟩))
            · have y2 : ¬ (x.toNat : Int) = 100 := fun h => x2 (xi 100 h)
              by_cases x3 : x = 99
              · subst x3
                match T, htn with
                | [s], _ => exact .inr (.inr (.inl ⟨rfl, s, rfl⟩))
                | [], h => exact .inr (.inr (.inr ⟨rfl, .inr (.inr (.inl ⟨y1, y2, rfl, by rw [h]; decide⟩))⟩))
                | [s, u], h => exact .inr (.inr (.inr ⟨rfl, .inr (.inr (.inl ⟨y1, y2, rfl, by rw [h]; simp⟩))⟩))
                | s :: u :: v :: l, h => exact .inr (.inr (.inr ⟨rfl, .inr (.inr (.inl ⟨y1, y2, rfl, by rw [h]; simp; omega⟩))⟩))
              · have y3 : ¬ (x.toNat : Int) = 99 := fun h => x3 (xi 99 h)
                refine .inr (.inr (.inr ⟨?_, .inr (.inr (.inr ⟨y1, y2, y3⟩))⟩))
                match T with
                | [] => rfl
                | [s] => simp [isWhat, x2, x3]
                | [s, u] => simp [isWhat, x1]
                | s :: u :: v :: l => rfl
        have HTN := Lib.hid htn
        clear htn
        rcases hcase with ⟨rfl, s, u2, rfl⟩ | ⟨rfl, s, rfl⟩ | ⟨rfl, s, rfl⟩ | ⟨hstop, hst⟩
        · obtain ⟨b0, s', rfl, e1, c0, s1⟩ := HT.out.at (k := 0) (by simp)
          obtain rfl : s = s' := by simpa using e1
          obtain ⟨b1, s', e0, e2, c1, s2⟩ := HT.out.at (k := 1) (by simp)
          obtain rfl : b0 = b1 := by simpa using e0
          obtain rfl : u2 = s' := by simpa using e2
          obtain rfl : tn = 2 := HTN.out
          rw [show b0.add 0 = b0 by simp [Addr.add]] at c0
          have c1' : w2.cell? ⟨b0.block, b0.off + 1, none⟩ = some (.string u2) := by simpa [Addr.add] using c1
          have HS := Lib.hid (And.intro s1 s2)
          clear e0 e1 e2 c1 s1 s2
          have d0 : w2.drew.cell? b0 = some (.string s) := c0
          have d1 : w2.drew.cell? ⟨b0.block, b0.off + 1, none⟩ = some (.string u2) := c1'
          go_wp2_with fail
          clear c0 c1'
          have HB3 : Hid (Batch w2.drew w.heap.size (.slice al j cl) (.slice an m cn) j m done now vs ∧ Below w.heap.size w w2.drew) := Lib.hid (And.intro (HB2.out.1.later (below_drewN (Below.refl _ w2) 1)) (below_drewN HB2.out.2.2 1))
          obtain ⟨o, ho⟩ : ∃ o : Opm, o = ⟨false, s, u2⟩ := ⟨_, rfl⟩
          have HO : Hid (what (112 :: r) now.length = .op o ∧ o.key.size ≤ maxLen ∧ o.val.size ≤ maxLen) := Lib.hid ⟨by rw [HW.out, ho]; simp [isWhat], by rw [ho]; exact ⟨HS.out.1, HS.out.2⟩⟩
          have F := Lib.hid (show m + 1 ≤ 1000000 by omega)
          have HC : Hid (Cells (w2.drew.alloc (.cells #[.bool false, .string s, .string u2] 65)) (.slice (some ⟨w2.drew.heap.size, 0, none⟩) 1 1) 3 1 (ov o)) := Lib.hid (by rw [ho]; exact Cells.lit w2.drew (ov ⟨false, s, u2⟩) 65 (0, 0) 3 1 rfl)
          have HB4 := Lib.hid (HB3.out.1.later ((Below.refl _ w2.drew).alloc (Nat.le_refl _) (.cells #[.bool false, .string s, .string u2] 65)))
          have HBB := Lib.hid (HB3.out.2.alloc HB3.out.2.size (.cells #[.bool false, .string s, .string u2] 65))
          clear ho
          go_region_law (refine step_append_gen elemOp rfl (.tmp 47) (.tmp 55) rfl w.heap.size _ m (ovs now) (by simp [Act.eval]) HB4.out.2.2.2.2.2.1 _ 1 (ov o) (by simp [Act.eval]) HC.out (ov_one o) (m + 1) rfl F (by decide) HBB.out.size ?_; intro ao8 c8 w8 hown8 hb8 hg8 ho8)
          all_goals
            have HX := Lib.hid (And.intro hown8 (And.intro hb8 (And.intro hg8 ho8)))
            clear hown8 hb8 hg8 ho8
            go_wp2_with fail
            exact ⟨⟨k + 1, j, m + 1, u, cl, c8, al, ao8, by omega, by simp, rfl, rfl, rfl, Lib.hid ⟨done, _, vs, replay_op HAT.out HP.out HO.out.1 (HB4.out.op o HO.out.2 HX.out.1 HX.out.2.2.1 HX.out.2.2.2) (HBB.out.trans HX.out.2.1)⟩⟩, by simp only [intOf]; omega⟩
        · obtain ⟨b0, s', rfl, e1, c0, s1⟩ := HT.out.at (k := 0) (by simp)
          obtain rfl : s = s' := by simpa using e1
          obtain rfl : tn = 1 := HTN.out
          rw [show b0.add 0 = b0 by simp [Addr.add]] at c0
          have HS := Lib.hid s1
          have HB3 := Lib.hid (And.intro HB2.out.1 HB2.out.2.2)
          obtain ⟨w3, hw3⟩ : ∃ w3, w3 = w2 := ⟨_, rfl⟩
          subst hw3
          clear e1 s1
          obtain ⟨o, ho⟩ : ∃ o : Opm, o = ⟨true, s, ⟨#[]⟩⟩ := ⟨_, rfl⟩
          have HO : Hid (what (100 :: r) now.length = .op o ∧ o.key.size ≤ maxLen ∧ o.val.size ≤ maxLen) := Lib.hid ⟨by rw [HW.out, ho]; simp [isWhat], by rw [ho]; exact ⟨HS.out, Nat.zero_le _⟩⟩
          have F := Lib.hid (show m + 1 ≤ 1000000 by omega)
          have HC : Hid (Cells (w3.alloc (.cells #[.bool true, .string s, .string ⟨#[]⟩] 65)) (.slice (some ⟨w3.heap.size, 0, none⟩) 1 1) 3 1 (ov o)) := Lib.hid (by rw [ho]; exact Cells.lit w3 (ov ⟨true, s, ⟨#[]⟩⟩) 65 (0, 0) 3 1 rfl)
          have HB4 := Lib.hid (HB3.out.1.later ((Below.refl _ w3).alloc (Nat.le_refl _) (.cells #[.bool true, .string s, .string ⟨#[]⟩] 65)))
          have HBB := Lib.hid (HB3.out.2.alloc HB3.out.2.size (.cells #[.bool true, .string s, .string ⟨#[]⟩] 65))
          clear ho
          go_wp2_with (at_builtin; refine wpList_append_gen elemOp rfl (.tmp 64) (.tmp 69) rfl w.heap.size _ m (ovs now) rfl HB4.out.2.2.2.2.2.1 _ 1 (ov o) rfl HC.out (ov_one o) (m + 1) rfl F (by decide) HBB.out.size ?_; intro ao8 c8 w8 hown8 hb8 hg8 ho8)
          exact ⟨⟨k + 1, j, m + 1, u, cl, c8, al, ao8, by omega, by simp, rfl, rfl, rfl, Lib.hid ⟨done, _, vs, replay_op HAT.out HP.out HO.out.1 (HB4.out.op o HO.out.2 hown8 hg8 ho8) (HBB.out.trans hb8)⟩⟩, by simp only [intOf]; omega⟩
        · obtain ⟨b0, s', rfl, e1, c0, s1⟩ := HT.out.at (k := 0) (by simp)
          obtain rfl : s = s' := by simpa using e1
          obtain rfl : tn = 1 := HTN.out
          rw [show b0.add 0 = b0 by simp [Addr.add]] at c0
          have d0 : ∀ w', Grow w2.drew w' → w'.cell? b0 = some (.string s) := fun w' hg => grow_cell hg c0
          have hmn : m = now.length := HAT.out.1.2.1
          have HMN := Lib.hid hmn
          have HB3 : Hid (Batch w2.drew w.heap.size (.slice al j cl) (.slice an m cn) j m done now vs ∧ Below w.heap.size w w2.drew ∧ Grow wr w2.drew) := Lib.hid ⟨HB2.out.1.later (below_drewN (Below.refl _ w2) 1), below_drewN HB2.out.2.2 1, below_drewN HB2.out.2.1 1⟩
          clear e1 s1 hmn
          by_cases hs : s = txt (digs m)
          · subst hs
            have HO : Hid (what (99 :: r) now.length = .done) := Lib.hid (by rw [HW.out, ← HMN.out]; simp [isWhat])
            go_wp2_with fail
            clear c0
            refine wp_region_mv [(0, 13, true), (13, 1, false), (14, 2, true)] (by kernel_rfl) (by kernel_rfl) ?_
            simp only [mvAll, mvSeg, List.drop_succ_cons, List.drop_zero, List.cons_append, List.nil_append, Nat.reduceAdd]
            iterate 13
              refine wpLin_still ?_ (fun w' hG K hK => ?_) (fun K hK => ?_)
              rotate_left
              · unfold mvVal
                go_simp
                try exact hK
              go_simp
              refine hK _ ?_
              clear hK K
            refine wpLin_call (fun K hK => ?_)
            unfold mvRun
            go_simp
            simp only [mvUpon]
            refine (digits_ref m w2.drew (by omega)).mono ?_
            rintro e w4 ⟨rfl, hb4⟩
            refine ⟨_, rfl, ?_⟩
            go_simp
            refine hK _ _ hb4 ?_
            clear hK K
            have HB4 : Hid (Batch w4 w.heap.size (.slice al j cl) (.slice an m cn) j m done now vs ∧ Below w.heap.size w w4 ∧ Grow wr w4) := Lib.hid ⟨HB3.out.1.later hb4, HB3.out.2.1.trans (hb4.mono HB3.out.2.1.size), Grow.trans HB3.out.2.2 hb4⟩
            clear hb4 d0
            iterate 2
              refine wpLin_still ?_ (fun w' hG K hK => ?_) (fun K hK => ?_)
              rotate_left
              · unfold mvVal
                go_simp
                try exact hK
              go_simp
              refine hK _ ?_
              clear hK K
            refine wpLin_nil ?_
            have F := Lib.hid (show j + 1 ≤ 1000000 by have := HAT.out.2.2.2.2.1; omega)
            have HC : Hid (Cells (w4.alloc (.cells #[.slice an m cn] 52)) (.slice (some ⟨w4.heap.size, 0, none⟩) 1 1) 1 1 [.slice an m cn]) := Lib.hid (Cells.lit w4 [.slice an m cn] 52 (0, 0) 1 1 rfl)
            have HB5 := Lib.hid (HB4.out.1.later ((Below.refl _ w4).alloc (Nat.le_refl _) (.cells #[.slice an m cn] 52)))
            have HBB := Lib.hid (HB4.out.2.1.alloc HB4.out.2.1.size (.cells #[.slice an m cn] 52))
            go_wp2_with (at_builtin; refine wpList_append_gen elemOps rfl (.tmp 87) (.tmp 89) rfl w.heap.size _ j vs rfl HB5.out.2.2.1 _ 1 [.slice an m cn] rfl HC.out (by intro u hu; simp only [List.mem_singleton] at hu; subst hu; rfl) (j + 1) rfl F (by decide) HBB.out.size ?_; intro ao8 c8 w8 hown8 hb8 hg8 ho8)
            exact ⟨⟨k + 1, j + 1, 0, k + 1, c8, 0, ao8, none, by omega, by simp, rfl, rfl, by simp, Lib.hid ⟨_, [], _, replay_done HAT.out HP.out HO.out (HB5.out.done (by unfold maxLen; omega) hown8 hg8 ho8) (HBB.out.trans hb8)⟩⟩, by simp only [intOf]; omega⟩
          · have z1 : (s.toList == (txt (digs m)).toList) = false := by
              simp only [beq_eq_false_iff_ne, ne_eq]
              exact fun h => hs (text_inj' h)
            have z2 : ¬ s.toList = (txt (digs m)).toList := fun h => hs (text_inj' h)
            have HO : Hid (what (99 :: r) now.length = .stop) := Lib.hid (by rw [HW.out, ← HMN.out]; simp [isWhat, hs])
            have HS := fun w' hg => replay_stops HAT.out (.inr ⟨99 :: r, HP.out, HO.out⟩) (by rw [← hlen'.out]; unfold maxLen; omega) w' hg
            have HS := Lib.hid HS
            clear hs
            go_wp2_with fail
            clear c0
            refine wp_region_mv [(0, 13, true), (13, 1, false), (14, 2, true)] (by kernel_rfl) (by kernel_rfl) ?_
            simp only [mvAll, mvSeg, List.drop_succ_cons, List.drop_zero, List.cons_append, List.nil_append, Nat.reduceAdd]
            iterate 13
              refine wpLin_still ?_ (fun w' hG K hK => ?_) (fun K hK => ?_)
              rotate_left
              · unfold mvVal
                go_simp
                try exact hK
              go_simp
              refine hK _ ?_
              clear hK K
            refine wpLin_call (fun K hK => ?_)
            unfold mvRun
            go_simp
            simp only [mvUpon]
            refine (digits_ref m w2.drew (by omega)).mono ?_
            rintro e w4 ⟨rfl, hb4⟩
            refine ⟨_, rfl, ?_⟩
            go_simp
            refine hK _ _ hb4 ?_
            clear hK K
            have HB4 : Hid (Batch w4 w.heap.size (.slice al j cl) (.slice an m cn) j m done now vs ∧ Below w.heap.size w w4 ∧ Grow wr w4) := Lib.hid ⟨HB3.out.1.later hb4, HB3.out.2.1.trans (hb4.mono HB3.out.2.1.size), Grow.trans HB3.out.2.2 hb4⟩
            clear hb4 d0
            iterate 2
              refine wpLin_still ?_ (fun w' hG K hK => ?_) (fun K hK => ?_)
              rotate_left
              · unfold mvVal
                go_simp
                try exact hK
              go_simp
              refine hK _ ?_
              clear hK K
            refine wpLin_nil ?_
            go_wp2_with fail
            go_ret2
            exact HS.out _ HB4.out.2.2
        · have HS := fun w' hg => replay_stops HAT.out (.inr ⟨x :: r, HP.out, by rw [HW.out, hstop]⟩) (by rw [← hlen'.out]; unfold maxLen; omega) w' hg
          have HS := Lib.hid HS
          clear hstop
          rcases hst with ⟨y1, y2⟩ | ⟨y1, y2, y3⟩ | ⟨y1, y2, y3, y4⟩ | ⟨y1, y2, y3⟩
          · have z1 : ((x.toNat : Int) == 99) = false := by rw [y1]; rfl
            have z2 : ((x.toNat : Int) == 100) = false := by rw [y1]; rfl
            have z3 : ((tn : Int) == 2) = false := by simpa using y2
            go_wp2_with fail
            go_quiet (fail)
            go_wp2_with fail
            go_ret2
            exact HS.out _ (below_drewN HB2.out.2.1 nq)
          · have z0 : ((x.toNat : Int) == 112) = false := by rw [y2]; rfl
            have z1 : ((x.toNat : Int) == 99) = false := by rw [y2]; rfl
            have z3 : ((tn : Int) == 1) = false := by simpa using y3
            go_wp2_with fail
            go_quiet (fail)
            go_wp2_with fail
            go_ret2
            exact HS.out _ (below_drewN HB2.out.2.1 nq)
          · have z0 : ((x.toNat : Int) == 112) = false := by rw [y3]; rfl
            have z1 : ((x.toNat : Int) == 100) = false := by rw [y3]; rfl
            have z3 : ((tn : Int) == 1) = false := by simpa using y4
            go_wp2_with fail
            go_quiet (fail)
            go_wp2_with fail
            go_ret2
            exact HS.out _ (below_drewN HB2.out.2.1 nq)
          · have z0 : ((x.toNat : Int) == 112) = false := by simpa using y1
            have z1 : ((x.toNat : Int) == 100) = false := by simpa using y2
            have z3 : ((x.toNat : Int) == 99) = false := by simpa using y3
            go_wp2_with fail
            go_quiet (fail)
            go_wp2_with fail
            go_ret2
            exact HS.out _ (below_drewN HB2.out.2.1 nq)
    · have h3 : ¬ (k : Int) < (n : Int) := by omega
      have hkn : k = n := by omega
      have HS := fun w' hg => replay_stops HAT.out (.inl (List.drop_eq_nil_of_le (by omega))) (by unfold maxLen; omega) w' hg
      have HS := Lib.hid HS
      clear hat hlen hkn
      go_wp2_with fail
      go_ret2
      exact HS.out _ (Below.refl _ _)
end Go.Proofs.YthcdkggkoanjpaaGreatDoor
