/- The stable sort's insertion sort of ops: the walk. Numbers and types by name. -/
import Derived.Test.YtabmjjicplomlaaCmo
import Derived.StillTailTactics
/- Lists of ops that are one but for the order of unlike keys; lists by rising keys: plain facts. Numbers and types by name. -/
namespace Go.Proofs.Ytabmjjicplomlaa
open Go.RowKit Go.Lib Go.Sort

/-- The same ops of each key, in the same order. -/
def Same (A B : List Opm) : Prop := ∀ k : List UInt8, A.filter (fun o => kO o == k) = B.filter (fun o => kO o == k)
theorem Same.refl (A : List Opm) : Same A A := fun _ => rfl
theorem Same.trans {A B C : List Opm} (h : Same A B) (g : Same B C) : Same A C := fun k => (h k).trans (g k)
theorem Same.symm {A B : List Opm} (h : Same A B) : Same B A := fun k => (h k).symm
theorem Same.app {A B C D : List Opm} (h : Same A B) (g : Same C D) : Same (A ++ C) (B ++ D) := fun k => by rw [List.filter_append, List.filter_append, h k, g k]
theorem Same.mem {A B : List Opm} (h : Same A B) {x : Opm} (hx : x ∈ A) : x ∈ B := by
  have : x ∈ A.filter (fun o => kO o == kO x) := by simp [hx]
  rw [h] at this
  exact (List.mem_filter.1 this).1
theorem same_turn {A B : List Opm} (h : ∀ x ∈ A, ∀ y ∈ B, kO y < kO x) : Same (A ++ B) (B ++ A) := by
  intro k
  rw [List.filter_append, List.filter_append]
  by_cases hA : A.filter (fun o => kO o == k) = []
  · rw [hA]; simp
  · have hB : B.filter (fun o => kO o == k) = [] := by
      rw [List.filter_eq_nil_iff]
      intro y hy
      obtain ⟨x, hx⟩ := List.exists_mem_of_ne_nil _ hA
      rw [List.mem_filter] at hx
      have h1 := h x hx.1 y hy
      have h2 : kO x = k := by simpa using hx.2
      simp only [beq_iff_eq]
      intro h3
      rw [h2, h3] at h1
      exact List.lt_irrefl _ h1
    rw [hB]; simp

/-- By rising keys, or the same. -/
def Asc (A : List Opm) : Prop := A.Pairwise fun x y => ¬ kO y < kO x

theorem key_tri {a b : List UInt8} (h : ¬ a < b) (g : ¬ b < a) : a = b := List.le_antisymm (List.not_lt.1 g) (List.not_lt.1 h)
theorem key_nlt_trans {a b c : List UInt8} (h : ¬ b < a) (g : ¬ c < b) : ¬ c < a := by
  rw [List.not_lt] at *
  exact List.le_trans h g
theorem key_lt_of {a b c : List UInt8} (h : ¬ b < a) (g : b < c) : a < c := by
  rw [List.not_lt] at h
  exact List.lt_of_le_of_lt h g
theorem key_lt_of' {a b c : List UInt8} (h : a < b) (g : ¬ c < b) : a < c := by
  exact Decidable.byContradiction fun hn => g (List.lt_of_le_of_lt (List.not_lt.1 hn) h)

theorem Asc.nil : Asc [] := List.Pairwise.nil
theorem Asc.app {A B : List Opm} (hA : Asc A) (hB : Asc B) (h : ∀ x ∈ A, ∀ y ∈ B, ¬ kO y < kO x) : Asc (A ++ B) := List.pairwise_append.2 ⟨hA, hB, h⟩
theorem Asc.left {A B : List Opm} (h : Asc (A ++ B)) : Asc A := (List.pairwise_append.1 h).1
theorem Asc.right {A B : List Opm} (h : Asc (A ++ B)) : Asc B := (List.pairwise_append.1 h).2.1
theorem Asc.cross {A B : List Opm} (h : Asc (A ++ B)) : ∀ x ∈ A, ∀ y ∈ B, ¬ kO y < kO x := (List.pairwise_append.1 h).2.2
theorem Asc.at {A : List Opm} (h : Asc A) {i j : Nat} (hij : i ≤ j) {x y : Opm} (hx : A[i]? = some x) (hy : A[j]? = some y) : ¬ kO y < kO x := by
  rcases Nat.eq_or_lt_of_le hij with rfl | hlt
  · rw [hx] at hy; cases hy; exact List.lt_irrefl _
  · obtain ⟨h1, e1⟩ := List.getElem?_eq_some_iff.1 hx
    obtain ⟨h2, e2⟩ := List.getElem?_eq_some_iff.1 hy
    have := List.pairwise_iff_getElem.1 h i j h1 h2 hlt
    rw [e1, e2] at this
    exact this

/-- An op behind all that are not greater, ahead of all that are: what was by rising keys is. -/
theorem asc_in {X1 X2 : List Opm} {x : Opm} (h : Asc (X1 ++ X2)) (h2 : ∀ z ∈ X2, kO x < kO z) (h1 : ∀ z, X1.getLast? = some z → ¬ kO x < kO z) : Asc (X1 ++ x :: X2) := by
  have h1' : ∀ z ∈ X1, ¬ kO x < kO z := by
    intro z hz
    obtain ⟨Y, l, rfl⟩ : ∃ Y l, X1 = Y ++ [l] := ⟨X1.dropLast, X1.getLast (List.ne_nil_of_mem hz), (List.dropLast_concat_getLast _).symm⟩
    have hl := h1 l (by simp)
    rcases List.mem_append.1 hz with hz | hz
    · exact key_nlt_trans (Asc.cross (Asc.left h) z hz l (by simp)) hl
    · obtain rfl : z = l := by simpa using hz
      exact hl
  refine Asc.app (Asc.left h) (List.pairwise_cons.2 ⟨fun y hy => ?_, Asc.right h⟩) fun z hz y hy => ?_
  · exact fun hlt => List.lt_irrefl _ (List.lt_trans (h2 y hy) hlt)
  · rcases List.mem_cons.1 hy with rfl | hy
    · exact h1' z hz
    · exact Asc.cross h z hz y hy
theorem same_in {X1 X2 B : List Opm} {x : Opm} (h2 : ∀ z ∈ X2, kO x < kO z) (h : Same B (X1 ++ X2)) : Same (B ++ [x]) (X1 ++ x :: X2) := by
  refine (h.app (Same.refl [x])).trans ?_
  rw [List.append_assoc]
  refine (Same.refl X1).app ?_
  exact same_turn (A := X2) (B := [x]) fun z hz y hy => by
    obtain rfl : y = x := by simpa using hy
    exact h2 z hz

theorem swpL_down (F R : List Opm) (x z : Opm) : swpL (F ++ z :: x :: R) (F.length + 1) F.length x z = F ++ x :: z :: R := by
  unfold swpL
  rw [List.set_append_right _ _ (by omega), List.set_append_right _ _ (by omega), Nat.sub_self, Nat.add_sub_cancel_left]
  rfl
theorem swpL_up (F R : List Opm) (x z : Opm) : swpL (F ++ x :: z :: R) F.length (F.length + 1) x z = F ++ z :: x :: R := by
  unfold swpL
  rw [List.set_append_right _ _ (by omega), List.set_append_right _ _ (by omega), Nat.sub_self, Nat.add_sub_cancel_left]
  rfl
theorem mid_at0 (F R : List Opm) (x : Opm) : (F ++ x :: R)[F.length]? = some x := by rw [List.getElem?_append_right (by omega), Nat.sub_self]; rfl
theorem mid_at1 (F R : List Opm) (x z : Opm) : (F ++ x :: z :: R)[F.length + 1]? = some z := by rw [List.getElem?_append_right (by omega), Nat.add_sub_cancel_left]; rfl

end Go.Proofs.Ytabmjjicplomlaa

namespace Go.Proofs.Ytabmjjicplomlaa
open Go.RowKit Go.Lib Go.Sort

/-- What a sorting call leaves: the part A is by rising keys. -/
def Sorted1 (w0 : World) (blk off n : Nat) (P A S : List Opm) (e : Ending) (w' : World) : Prop := e = .returned (.tuple #[]) ∧ ∃ B, Asc B ∧ Same A B ∧ B.length = A.length ∧ Srts w0 blk off n (P ++ B ++ S) w'

def cmpF : Value := .func (.func 53) #[] #[]

set_option maxRecDepth 100000 in
set_option maxHeartbeats 4000000 in
theorem insert_sort (w0 : World) (blk off n cap : Nat) (B : Lies w0 blk off n) (P A S : List Opm) (W : World) (h : Srts w0 blk off n (P ++ A ++ S) W) (b : Nat) (hb : b = P.length + A.length) :
    Calls Try.prog 63 #[.slice (some ⟨blk, off, none⟩) n cap, .int .i64 (P.length : Nat), .int .i64 (b : Nat), cmpF] W (Sorted1 w0 blk off n P A S) := by
  have HB := Lib.hid B
  have mixed : Try.prog.follows .mixedOrders = true := by kernel_rfl
  have hn : b ≤ n := by have := h.1; simp at this; omega
  have hn2 := B.1
  have H0 := Lib.hid h
  clear h B
  unfold cmpF
  obtain ⟨p, hp⟩ : ∃ p, P.length = p := ⟨_, rfl⟩
  obtain ⟨m, hm⟩ : ∃ m, A.length = m := ⟨_, rfl⟩
  rw [hp, hm] at hb
  replace hb : p + m = b := hb.symm
  rw [hp]
  have HL := Lib.hid (And.intro hp hm)
  have hpn : p ≤ n := by omega
  clear hp hm
  go_enter Try.func63, Try.ntmps63
  go_wp2_with fail
  go_loopw [8] (fun i wr => ∃ (j k : Nat) (A1 : List Opm), i = .int .i64 (j : Int) ∧ p + k = j ∧ 1 ≤ k ∧ k ≤ m + 1 ∧ Hid (A1.length = min k m ∧ Asc A1 ∧ Same (A.take k) A1 ∧ Srts w0 blk off n (P ++ A1 ++ A.drop k ++ S) wr))
    (fun i _ => n + 2 - (RowKit.intOf i).toNat)
  case atStart =>
    refine ⟨p + 1, 1, A.take 1, by simp, rfl, Nat.le_refl _, by omega, Lib.hid ⟨?_, ?_, Same.refl _, ?_⟩⟩
    · have := HL.out.2; simp; omega
    · cases A with
      | nil => exact Asc.nil
      | cons x A => simp [Asc]
    · have := H0.out
      rwa [← List.take_append_drop 1 A, ← List.append_assoc] at this
  case round =>
    obtain ⟨j, k, A1, rfl, hj, hk1, hkm, hs⟩ := hrel
    by_cases hk : k < m
    · have h3 : (j : Int) < (b : Int) := by omega
      have hjn : j < n := by omega
      obtain ⟨x, hx⟩ : ∃ x, A[k]? = some x := ⟨_, List.getElem?_eq_getElem (by have := HL.out.2; omega)⟩
      have HX := Lib.hid hx
      have HJ := Lib.hid (And.intro hj (And.intro hk1 (And.intro hkm hk)))
      clear hx hj hk1 hkm hk
      go_wp2_with fail
      go_loopw [9] (fun i2 wr2 => ∃ (j2 : Nat) (X1 X2 : List Opm), i2 = .int .i64 (j2 : Int) ∧ j2 ≤ j ∧ p ≤ j2 ∧ Hid (p + X1.length = j2 ∧ X1 ++ X2 = A1 ∧ (∀ z ∈ X2, kO x < kO z) ∧ Srts w0 blk off n (P ++ X1 ++ x :: (X2 ++ A.drop (k + 1) ++ S)) wr2))
        (fun i2 _ => (RowKit.intOf i2).toNat)
      case atStart =>
        refine ⟨j, A1, [], rfl, Nat.le_refl _, by have := HJ.out.1; omega, Lib.hid ⟨?_, by simp, by simp, ?_⟩⟩
        · have := hs.out.1; have := HJ.out; omega
        · have := hs.out.2.2.2
          rw [← List.getElem_cons_drop (h := (List.getElem?_eq_some_iff.1 HX.out).1), (List.getElem?_eq_some_iff.1 HX.out).2] at this
          simpa using this
      case round =>
        obtain ⟨j2, X1, X2, rfl, hj2, hpj, hr⟩ := hrel
        rcases List.eq_nil_or_concat X1 with rfl | ⟨Y1, z, rfl⟩
        · obtain rfl : j2 = p := by have := hr.out.1; simp at this; omega
          have h4 : decide ((j2 : Int) > (j2 : Int)) = false := by simp
          go_wp2_with fail
          go_quiet (fail)
          go_wp2_with fail
          obtain ⟨q1, q2, q3, q4⟩ := hs.out
          obtain ⟨r1, r2, r3, r4⟩ := hr.out
          have hjj := HJ.out
          have hmm := HL.out.2
          refine ⟨⟨j + 1, k + 1, x :: X2, by simp, by omega, by omega, by omega, Lib.hid ⟨?_, ?_, ?_, ?_⟩⟩, by simp [RowKit.intOf]; omega⟩
          · have : X2.length = A1.length := by rw [← r2]; simp
            simp; omega
          · exact asc_in (X1 := []) (by rw [r2]; exact q2) r3 (by intro z hz; cases hz)
          · rw [take_next HX.out]
            exact same_in (X1 := []) r3 (by rw [r2]; exact q3)
          · have := r4.drewN nq
            simpa using this
        · rw [List.concat_eq_append] at hr
          obtain ⟨j3, hj3⟩ : ∃ j3, p + Y1.length = j3 := ⟨_, rfl⟩
          have hj23 : j3 + 1 = j2 := by have := hr.out.1; simp at this; omega
          have h4 : decide ((j2 : Int) > (p : Int)) = true := by simp; omega
          have h4n : p < j2 := by omega
          have l2 : (j2 : Int) < (n : Int) := by omega
          have l3 : (j3 : Int) < (n : Int) := by omega
          have l2' : j2 < n := by omega
          have l3' : j3 < n := by omega
          have w1 : IntKind.i64.wrap ((j2 : Int) - 1) = (j3 : Int) := by rw [IntKind.wrap_i64]; omega
          obtain ⟨r1, r2, r3, r4⟩ := hr.out
          have hF : (P ++ Y1).length = j3 := by rw [List.length_append, HL.out.1, hj3]
          have e4 : P ++ (Y1 ++ [z]) ++ x :: (X2 ++ A.drop (k + 1) ++ S) = (P ++ Y1) ++ z :: x :: (X2 ++ A.drop (k + 1) ++ S) := by simp
          rw [e4] at r4
          have ax := mid_at1 (P ++ Y1) (X2 ++ A.drop (k + 1) ++ S) z x
          have az := mid_at0 (P ++ Y1) (x :: (X2 ++ A.drop (k + 1) ++ S)) z
          rw [hF, hj23] at ax
          rw [hF] at az
          have HR := Lib.hid (And.intro r1 (And.intro r2 (And.intro r3 (And.intro hF (And.intro hj3 (And.intro ax az))))))
          have h5 := Lib.hid r4
          have cx := fun q os => ((r4.grown q os).cells HB.out ax).1
          have cz := fun q os => ((r4.grown q os).cells HB.out az).1
          obtain ⟨xd, xk, xv⟩ := x
          obtain ⟨zd, zk, zv⟩ := z
          simp only at cx cz
          have x0 := fun q os => (cx q os).1
          have x1 := fun q os => (cx q os).2.1
          have x2 := fun q os => (cx q os).2.2
          have z0 := fun q os => (cz q os).1
          have z1 := fun q os => (cz q os).2.1
          have z2 := fun q os => (cz q os).2.2
          clear cx cz r1 r2 r3 r4 e4 ax az hF hr hj3
          obtain ⟨cv, hcv⟩ : ∃ cv, compareBytes (kO ⟨xd, xk, xv⟩) (kO ⟨zd, zk, zv⟩) = cv := ⟨_, rfl⟩
          have CV := fun w => cmp_as hcv w
          by_cases hlt : kO ⟨xd, xk, xv⟩ < kO ⟨zd, zk, zv⟩
          · have c1 : cv < 0 := by rw [← hcv]; exact (cmp_lt _ _).2 hlt
            clear hcv
            go_wp2_with fail
            go_quiet_grown (refine Calls.grown_of (CV _))
            go_wp2_with fail
            have hg := h5.out.grown nq osq
            generalize grow (wr.drewN nq) osq = wq at hg ⊢
            have HG := Lib.hid hg
            obtain ⟨⟨a0, a1, a2⟩, f0, f1, f2⟩ := hg.cells HB.out HR.out.2.2.2.2.2.1
            obtain ⟨⟨b0, b1, b2⟩, g0, g1, g2⟩ := hg.cells HB.out HR.out.2.2.2.2.2.2
            simp only at a0 a1 a2 b0 b1 b2
            have y00 : ¬ off + j3 * 3 = off + j2 * 3 := by omega
            have y01 : ¬ off + j3 * 3 = off + j2 * 3 + 1 := by omega
            have y02 : ¬ off + j3 * 3 = off + j2 * 3 + 2 := by omega
            have y10 : ¬ off + j3 * 3 + 1 = off + j2 * 3 := by omega
            have y11 : ¬ off + j3 * 3 + 1 = off + j2 * 3 + 1 := by omega
            have y12 : ¬ off + j3 * 3 + 1 = off + j2 * 3 + 2 := by omega
            have y20 : ¬ off + j3 * 3 + 2 = off + j2 * 3 := by omega
            have y21 : ¬ off + j3 * 3 + 2 = off + j2 * 3 + 1 := by omega
            have y22 : ¬ off + j3 * 3 + 2 = off + j2 * 3 + 2 := by omega
            have HA := Lib.hid (And.intro h3 (And.intro hjn (And.intro hj2 (And.intro hpj (And.intro hj23 hlt)))))
            clear x0 x1 x2 z0 z1 z2 c1 CV hg hlt h3 hj2 hpj hj23 h4 h4n hpn hn hjn
            go_big_region
            all_goals go_wp2_with fail
            obtain ⟨h3, hjn, hj2, hpj, hj23, hlt⟩ := HA.out
            obtain ⟨r1, r2, r3, hF, hj3, ax, az⟩ := HR.out
            refine ⟨⟨j3, Y1, ⟨zd, zk, zv⟩ :: X2, by first | rfl | simp, by omega, by omega, Lib.hid ⟨hj3, by rw [← r2]; simp, ?_, ?_⟩⟩, by simp only [RowKit.intOf]; omega⟩
            · intro u hu
              rcases List.mem_cons.1 hu with rfl | hu
              · exact hlt
              · exact r3 u hu
            · have hst := HG.out.swap HB.out ax az
              have e := swpL_down (P ++ Y1) (X2 ++ A.drop (k + 1) ++ S) ⟨xd, xk, xv⟩ ⟨zd, zk, zv⟩
              rw [hF, hj23] at e
              rw [e] at hst
              exact hst
          · have c1 : ¬ cv < 0 := by rw [← hcv]; exact fun h => hlt ((cmp_lt _ _).1 h)
            clear hcv
            go_wp2_with fail
            go_quiet_grown (refine Calls.grown_of (CV _))
            go_wp2_with fail
            obtain ⟨q1, q2, q3, q4⟩ := hs.out
            obtain ⟨r1, r2, r3, hF, hj3, ax, az⟩ := HR.out
            have hjj := HJ.out
            have hmm := HL.out.2
            refine ⟨⟨j + 1, k + 1, Y1 ++ [⟨zd, zk, zv⟩] ++ ⟨xd, xk, xv⟩ :: X2, by simp, by omega, by omega, by omega, Lib.hid ⟨?_, ?_, ?_, ?_⟩⟩, by simp [RowKit.intOf]; omega⟩
            · have : (Y1 ++ [(⟨zd, zk, zv⟩ : Opm)] ++ X2).length = A1.length := by rw [r2]
              simp at this ⊢; omega
            · exact asc_in (by rw [r2]; exact q2) r3 (by intro u hu; have : u = ⟨zd, zk, zv⟩ := by simpa using hu.symm
                                                         subst this; exact hlt)
            · rw [take_next HX.out]
              exact same_in r3 (by rw [r2]; exact q3)
            · have := h5.out.grown nq osq
              simpa using this
    · have h3 : ¬ (j : Int) < (b : Int) := by omega
      have HJ := Lib.hid (And.intro hj (And.intro hk1 (And.intro hkm hk)))
      clear hj hk1 hkm hk
      go_wp2_with fail
      go_end0
      obtain ⟨q1, q2, q3, q4⟩ := hs.out
      have hmm := HL.out.2
      have hjj := HJ.out
      refine ⟨rfl, A1, q2, ?_, by omega, ?_⟩
      · rwa [List.take_of_length_le (by omega)] at q3
      · rwa [List.drop_eq_nil_of_le (by omega), List.append_nil] at q4

end Go.Proofs.Ytabmjjicplomlaa
