/- A store on a calm disk behind k commits: plain facts. Numbers and types by name. -/
import Derived.Test.YthcdkggkoanjpaaGreatDoorBel
import Derived.BigRegion
import Derived.RegionTactic
import Derived.ChangeAlike
import Derived.Maps.OwnSet
import Derived.Sort.KeysCollected
import Derived.WalkSpells
import Derived.StillTailTactics
import Derived.Laws.BitsLemmas
import Derived.Lib.LaidTab
import Derived.Lib.AppendZerosOnto
import Derived.Lib.SliceRun
import Derived.WalkMore
import Derived.Test.YthcdkggkoanjpaaGreatDoorSte
import Derived.Test.YthcdkggkoanjpaaGreatDoorObz
/- Lists of ops: are they right, are they one? Numbers and types by name. -/
namespace Go.Proofs.YthcdkggkoanjpaaGreatDoor
open Go.RowKit Go.Lib
theorem right_ref (v : Value) (n : Nat) (L : List Opm) (w : World) (hr : Opr w v n L) :
    Calls Tryz.prog 29 #[v] w fun e w' => e = .returned (.bool (okOps L)) ∧ w' = w := by
  obtain ⟨ao, c, rfl⟩ := hr.shape
  have HR := Lib.hid hr
  have hm := hr.2.1
  unfold maxLen at hm
  clear hr
  go_enter Tryz.func29, Tryz.ntmps29
  go_wp2_with fail
  go_loopw [3] (fun i wr => ∃ k : Nat, k ≤ n ∧ i = .int .i64 k ∧ Hid ((L.take k).all okOp = true) ∧ w = wr)
    (fun i _ => n - (intOf i).toNat)
  case atStart => exact ⟨0, Nat.zero_le _, rfl, Lib.hid (by simp), rfl⟩
  case round =>
    obtain ⟨k, hk, rfl, hrel, rfl⟩ := hrel
    by_cases hlt : k < n
    · have h3 : (k : Int) < (n : Int) := by omega
      obtain ⟨a, o, rfl, ho, c0, c1, c2, s1, s2⟩ := HR.out.at hlt
      have HO := Lib.hid ho
      clear ho
      have step : (L.take (k + 1)).all okOp = okOp o := by rw [take_next HO.out, List.all_append, hrel.out]; simp
      cases hd : o.del with
      | false =>
        rw [hd] at c0
        have HS : Hid ((L.take (k + 1)).all okOp = true) := Lib.hid (by rw [step]; simp [okOp, hd])
        clear step hd
        go_wp2_with fail
        exact ⟨⟨k + 1, by omega, by simp, HS, trivial⟩, by simp [intOf]; omega⟩
      | true =>
        rw [hd] at c0
        cases hv : o.val.toList.isEmpty with
        | true =>
          have HS : Hid ((L.take (k + 1)).all okOp = true) := Lib.hid (by rw [step]; simp [okOp, hv])
          clear step hd
          go_wp2_with fail
          exact ⟨⟨k + 1, by omega, by simp, HS, trivial⟩, by simp [intOf]; omega⟩
        | false =>
          have HS : Hid (okOps L = false) := Lib.hid (by
            have e : L = L.take (k + 1) ++ L.drop (k + 1) := (List.take_append_drop _ _).symm
            have e2 : L.all okOp = false := by
              rw [e, List.all_append, step]
              simp [okOp, hv, hd]
            simp [okOps, e2])
          clear step hd
          go_wp2_with fail
          go_ret
          rw [HS.out]
          exact ⟨rfl, rfl⟩
    · have h3 : ¬ (k : Int) < (n : Int) := by omega
      obtain rfl : k = n := by omega
      have hk2 : L.take k = L := List.take_of_length_le (by have := HR.out.1; omega)
      have e : okOps L = decide ((k : Int) ≤ 1000) := by
        have h1 := hrel.out
        have h2 := HR.out.1
        rw [hk2] at h1
        unfold okOps
        rw [h1, Bool.true_and]
        congr 1
        simp only [eq_iff_iff]
        omega
      have HE := Lib.hid e
      clear hk2 e
      go_wp2_with fail
      go_ret
      rw [HE.out]
      exact ⟨rfl, rfl⟩
end Go.Proofs.YthcdkggkoanjpaaGreatDoor

/- Lists of lists of ops that a law appends to. Numbers and types by name. -/
namespace Go.Proofs.YthcdkggkoanjpaaGreatDoor
open Go.RowKit Go.Lib
theorem right_at (v : Value) (n : Nat) (L : List Opm) (w : World) (hr : Opr w v n L) :
    Calls Tryz.prog 29 #[v] w fun e w' => e = .returned (.bool (okOps L)) ∧ w = w' := (right_ref v n L w hr).mono fun _ _ h => ⟨h.1, h.2.symm⟩
end Go.Proofs.YthcdkggkoanjpaaGreatDoor

namespace Go.Proofs.YthcdkggkoanjpaaGreatDoor
open Go.RowKit Go.Lib
theorem calm_commitS {k : Nat} {M : MD} {n : Nat} {L S : List Prm} {B : List (List Opm)} {O : List Opm} {t : List UInt8} (h : PS k M n false L S B O t) (hs : Still8 M) (hk : k ≤ 80) {X : List Opm} (hm : mild X) (most : Int) :
    (commitS most M n false L X).s = false ∧ Still8 (commitS most M n false L X).M ∧ (commitS most M n false L X).M.cap = M.cap ∧ (okOps X = false → (commitS most M n false L X).e = 1) ∧
    (okOps X = true → ((commitS most M n false L X).e = 0 ∧ ¬ M.cap < (tot M.fs : Int) + (frms (recs X)).length) ∨ ((commitS most M n false L X).e = 5 ∧ M.cap < (tot M.fs : Int) + (frms (recs X)).length)) := by
  obtain ⟨d1, d2, d3, d4, d5⟩ := calm_commit h.sk hs X
  obtain ⟨c1, _, _⟩ := sk_commit h.sk hm.1
  obtain ⟨W, hW⟩ : ∃ W, W = commitP M n false X := ⟨_, rfl⟩
  rw [← hW] at d1 d2 d3 d4 d5 c1
  by_cases he : W.e = 0
  · obtain ⟨k1, k2, k3⟩ := c1 he
    rw [k2] at k1
    have hr : ∀ e, e = 0 → (okOps X = false → e = (1 : Int)) ∧ (okOps X = true → (e = 0 ∧ ¬ M.cap < (tot M.fs : Int) + (frms (recs X)).length) ∨ (e = 5 ∧ M.cap < (tot M.fs : Int) + (frms (recs X)).length)) := fun e e0 => ⟨(fun h => by rw [k3] at h; cases h), fun hok => .inl ⟨e0, by
      rcases d5 hok with h | h
      · exact h.2
      · have := h.1; rw [he] at this; cases this⟩⟩
    by_cases hmo : most < (W.n : Int)
    · have e := commitS_many (L := L) hW he hmo
      rw [k2] at e
      obtain ⟨f1, f2, f3, _⟩ := calm_check k1 d2
      rw [e]
      exact ⟨f1, f2, f3.trans d3, hr 0 rfl⟩
    · have e := commitS_few (L := L) hW he hmo
      rw [e]
      exact ⟨k2, d2, d3, hr 0 rfl⟩
  · have e := commitS_bad (most := most) (L := L) hW he
    rw [e]
    exact ⟨d1, d2, d3, d4, d5⟩
theorem calm_step {k : Nat} {M : MD} {n : Nat} {L S : List Prm} {B : List (List Opm)} {O : List Opm} (h : PS k M n false L S B O []) (hs : Still8 M) (hk : k ≤ 80) {X : List Opm} (hm : mild X) (most : Int) :
    (∃ S' B' O', PS (k + 1) (commitS most M n false L X).M (commitS most M n false L X).n false (commitS most M n false L X).L S' B' O' []) ∧ (commitS most M n false L X).s = false ∧ Still8 (commitS most M n false L X).M ∧ (commitS most M n false L X).M.cap = M.cap ∧
    ((commitS most M n false L X).e = 0 → (commitS most M n false L X).L = applyP L X ∧ okOps X = true) ∧ ((commitS most M n false L X).e ≠ 0 → (commitS most M n false L X).L = L) ∧
    (okOps X = false → (commitS most M n false L X).e = 1) ∧ (okOps X = true → ((commitS most M n false L X).e = 0 ∧ ¬ M.cap < (tot M.fs : Int) + (frms (recs X)).length) ∨ ((commitS most M n false L X).e = 5 ∧ M.cap < (tot M.fs : Int) + (frms (recs X)).length)) := by
  obtain ⟨g1, g2, g3, g4, g5⟩ := calm_commitS h hs hk hm most
  obtain ⟨p1, p2⟩ := ps_commit h hk hm most
  refine ⟨?_, g1, g2, g3, fun he => ?_, fun he => (p2 he).1, g4, g5⟩
  · by_cases he : (commitS most M n false L X).e = 0
    · obtain ⟨S', B', k1, k2⟩ := p1 he
      rw [g1] at k1
      rw [k2]
      exact ⟨S', B', O, k1⟩
    · obtain ⟨q1, q2, q3⟩ := p2 he
      rw [q1]
      cases hok : okOps X with
      | false =>
        have k1 := q3 (.inr hok)
        rw [g1] at k1
        exact ⟨S, B, O, k1⟩
      | true =>
        have h8 : (commitS most M n false L X).e ≠ 8 := by
          rcases g5 hok with h | h
          · exact absurd h.1 he
          · rw [h.1]; decide
        obtain ⟨t', k1⟩ := q2 h8 hok
        rw [g1] at k1
        have := k1.sk.fine rfl
        subst this
        exact ⟨S, B, X, k1⟩
  · obtain ⟨S', B', k1, k2⟩ := p1 he
    refine ⟨k2, ?_⟩
    cases hok : okOps X with
    | true => rfl
    | false => rw [g4 hok] at he; cases he
theorem calm_new {M : MD} {k : Nat} {S : List Prm} {B : List (List Opm)} {O : List Opm} (h : PD k M S B O []) (hl : Meas k (applyAll S B)) (hs : Still8 M) : (openS M).e = 0 ∧ Still8 (openS M).M ∧ (openS M).M.cap = M.cap ∧ (openS M).L = applyAll S B ∧ PS (k + 1) (openS M).M (openS M).n false (openS M).L S B O [] := by
  obtain ⟨c1, c2, c3⟩ := calm_open h.dk hs
  obtain ⟨_, g1⟩ := pd_open h hl (fun h => absurd rfl h)
  obtain ⟨_, m, hm, k1⟩ := g1 c1
  have hmn : m = B := by
    rcases hm with h | ⟨h, _⟩
    · exact h
    · exact absurd rfl h
  subst hmn
  exact ⟨c1, c2, c3, k1.sk.L, k1⟩
theorem calm_again {k : Nat} {M : MD} {n : Nat} {s : Bool} {L S : List Prm} {B : List (List Opm)} {O : List Opm} (h : PS k M n s L S B O []) (cap : Int) (hc : cap ≤ 9223372036854775807) :
    PD (k + 1) (M.restart cap 0 false [] []) S B O [] ∧ (openS (M.restart cap 0 false [] [])).e = 0 ∧ Still8 (openS (M.restart cap 0 false [] [])).M ∧ (openS (M.restart cap 0 false [] [])).M.cap = cap ∧ (openS (M.restart cap 0 false [] [])).L = L ∧
    PS (k + 2) (openS (M.restart cap 0 false [] [])).M (openS (M.restart cap 0 false [] [])).n false (openS (M.restart cap 0 false [] [])).L S B O [] := by
  obtain ⟨t', p3, ht'⟩ := pd_restart h.pd cap 0 false [] [] hc (by simp) (by simp)
  obtain rfl := ht' rfl
  obtain ⟨c1, c2, c3, c4, c5⟩ := calm_new p3 (by rw [← h.sk.L]; exact h.ml.more (by omega)) ⟨rfl, Int.le_refl _, rfl⟩
  exact ⟨p3, c1, c2, c3, c4.trans h.sk.L.symm, c5⟩
end Go.Proofs.YthcdkggkoanjpaaGreatDoor
