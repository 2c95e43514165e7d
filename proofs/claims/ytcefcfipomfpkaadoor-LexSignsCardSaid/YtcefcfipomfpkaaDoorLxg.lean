/- What lies between the tokens of a text. Plain facts. Numbers and types by name. -/
import Derived.Test.YtcefcfipomfpkaaDoorLxj
namespace Go.Proofs.YtcefcfipomfpkaaDoor
open Go.RowKit Go.Lib

/-- Within a remark, behind some bytes. -/
def remF (m : Bool) (b : List UInt8) : Bool := b.foldl (fun m c => (m && c != 10) || c == 35) m
theorem remF_append (m : Bool) (a b : List UInt8) : remF m (a ++ b) = remF (remF m a) b := List.foldl_append
theorem remF_snoc (m : Bool) (a : List UInt8) (c : UInt8) : remF m (a ++ [c]) = ((remF m a && c != 10) || c == 35) := by
  rw [remF_append]
  rfl
/-- The first token of a rest. -/
structure HeadOk (i : Nat) (r : List UInt8) (m : Bool) (t : Tk) (l' : List Tk) : Prop where
  lo : i ≤ t.pos
  hi : t.pos + t.text.length ≤ i + r.length
  txt : (r.drop (t.pos - i)).take t.text.length = t.text
  last : t.text = [] ↔ l' = []
  fin : l' = [] → t.pos = i + r.length
  next : l' ≠ [] → (lexA (t.pos + t.text.length) (r.drop (t.pos + t.text.length - i))).e = 0 ∧ l' = (lexA (t.pos + t.text.length) (r.drop (t.pos + t.text.length - i))).l
  gap : ∀ g c, g < t.pos - i → r[g]? = some c → remF m (r.take (g + 1)) = true ∨ isSpc c = true

theorem runL_take (p : UInt8 → Bool) (r : List UInt8) : (∀ c ∈ r.take (runL p r), p c = true) ∧ (r.drop (runL p r) = [] ∨ ∃ c l, r.drop (runL p r) = c :: l ∧ p c = false) := by
  unfold runL
  induction r with
  | nil => simp
  | cons c r ih =>
    rw [List.takeWhile_cons]
    split
    · rename_i h
      simp only [List.length_cons, List.take_succ_cons, List.drop_succ_cons]
      refine ⟨fun x hx => ?_, ih.2⟩
      rcases List.mem_cons.1 hx with rfl | hx
      · exact h
      · exact ih.1 x hx
    · rename_i h
      simp only [List.length_nil, List.take_zero, List.drop_zero]
      exact ⟨fun x hx => (by cases hx), .inr ⟨c, r, rfl, by simpa using h⟩⟩
theorem remF_true (b : List UInt8) (h : ∀ c ∈ b, (c != 10) = true) : remF true b = true := by
  induction b with
  | nil => rfl
  | cons c b ih =>
    show remF ((true && c != 10) || c == 35) b = true
    rw [h c (by simp)]
    exact ih fun x hx => h x (by simp [hx])
/-- What is skipped: a blank, or a remark up to its line's end. -/
theorem skip_what {c : UInt8} {r : List UInt8} {n : Nat} (h : stepL (c :: r) = .skip n) : (isSpc c = true ∧ n = 1) ∨ (c = 35 ∧ isSpc c = false ∧ n = 1 + runL (fun x => x != 10) r) := by
  change stepC c r = .skip n at h
  unfold stepC at h
  split at h
  · rename_i h1
    cases h
    exact .inl ⟨h1, rfl⟩
  rename_i h1
  split at h
  · rename_i h2
    cases h
    exact .inr ⟨h2, by simpa using h1, rfl⟩
  split at h
  · split at h <;> cases h
  split at h
  · split at h
    · cases h
    split at h <;> cases h
  split at h <;> cases h
theorem head_ok : ∀ (k i : Nat) (r : List UInt8) (m : Bool), r.length ≤ k → (m = true → r = [] ∨ ∃ l, r = 10 :: l) → (lexA i r).e = 0 → ∃ t l', (lexA i r).l = t :: l' ∧ HeadOk i r m t l'
  | _, i, [], m, _, _, _ => by
    refine ⟨⟨0, [], i⟩, [], rfl, Nat.le_refl _, by simp, by simp, by simp, fun _ => by simp, fun h => absurd rfl h, fun g c hg => ?_⟩
    simp only at hg
    omega
  | 0, _, c :: r, _, h, _, _ => by simp at h
  | k + 1, i, c :: r, m, h, hm, h0 => by
    simp only [List.length_cons] at h
    cases hs : stepL (c :: r) with
    | skip n =>
      have hn := (stepL_n (c := c) (r := r)).1 n hs
      rw [lexA_skip hs] at h0 ⊢
      have hm' : remF m ((c :: r).take n) = true → (c :: r).drop n = [] ∨ ∃ l, (c :: r).drop n = 10 :: l := by
        rcases skip_what hs with ⟨h1, rfl⟩ | ⟨rfl, h1, rfl⟩
        · intro hr
          exfalso
          have hr' : ((m && c != 10) || c == 35) = true := hr
          have h35 : (c == 35) = false := by
            cases hc : c == 35 with
            | false => rfl
            | true =>
              rw [eq_of_beq hc] at h1
              exact absurd h1 (by decide)
          rw [h35, Bool.or_false, Bool.and_eq_true] at hr'
          rcases hm hr'.1 with h2 | ⟨l, h2⟩
          · cases h2
          · rw [(List.cons.inj h2).1] at hr'
            exact absurd hr'.2 (by decide)
        · intro _
          rw [Nat.add_comm, List.drop_succ_cons]
          rcases (runL_take (fun x => x != 10) r).2 with h2 | ⟨c, l, h2, h3⟩
          · exact .inl h2
          · have : c = 10 := by simpa using h3
            rw [this] at h2
            exact .inr ⟨l, h2⟩
      obtain ⟨t, l', e1, ok⟩ := head_ok k (i + n) ((c :: r).drop n) (remF m ((c :: r).take n)) (by simp only [List.length_drop, List.length_cons]; omega) hm' h0
      have lo := ok.lo
      have hi := ok.hi
      have hlen : ((c :: r).drop n).length = r.length + 1 - n := by simp
      refine ⟨t, l', e1, by omega, by simp only [List.length_cons]; omega, ?_, ok.last, fun hl => ?_, fun hl => ?_, fun g d hg hd => ?_⟩
      · have := ok.txt
        rw [List.drop_drop, show n + (t.pos - (i + n)) = t.pos - i by omega] at this
        exact this
      · have := ok.fin hl
        simp only [List.length_cons]
        omega
      · have := ok.next hl
        rw [List.drop_drop, show n + (t.pos + t.text.length - (i + n)) = t.pos + t.text.length - i by omega] at this
        exact this
      · by_cases hgn : g < n
        · rcases skip_what hs with ⟨h1, rfl⟩ | ⟨rfl, h1, rfl⟩
          · obtain rfl : g = 0 := by omega
            simp only [List.getElem?_cons_zero, Option.some.injEq] at hd
            rw [← hd]
            exact .inr h1
          · left
            rw [List.take_succ_cons]
            show remF ((m && (35 : UInt8) != 10) || (35 : UInt8) == 35) (r.take g) = true
            rw [show ((35 : UInt8) == 35) = true from rfl, Bool.or_true]
            refine remF_true _ fun x hx => (runL_take (fun x => x != 10) r).1 x ?_
            exact List.take_subset_take_left r (by omega) hx
        · have h2 : ((c :: r).drop n)[g - n]? = some d := by
            rw [List.getElem?_drop, show n + (g - n) = g by omega]
            exact hd
          have h3 := ok.gap (g - n) d (by omega) h2
          rw [← remF_append] at h3
          rw [show g + 1 = n + (g - n + 1) by omega, List.take_add]
          exact h3
    | tok j n =>
      have hn := (stepL_n (c := c) (r := r)).2 j n hs
      rw [lexA_tok hs] at h0 ⊢
      have h0' : (lexA (i + n) ((c :: r).drop n)).e = 0 := h0
      have hl := ((lexA_l _ (i + n) ((c :: r).drop n) (Nat.le_refl _)).1 h0').1
      have htl : ((c :: r).take n).length = n := by
        rw [List.length_take, List.length_cons]
        omega
      refine ⟨⟨j, (c :: r).take n, i⟩, (lexA (i + n) ((c :: r).drop n)).l, ?_, Nat.le_refl _, ?_, ?_, ?_, fun h => absurd h hl, fun _ => ?_, fun g c hg => ?_⟩
      · unfold consL
        simp only
        rw [if_pos h0']
      · simp only [htl, List.length_cons]
        omega
      · simp only [htl, Nat.sub_self, List.drop_zero]
      · refine ⟨fun h => ?_, fun h => absurd h hl⟩
        simp only at h
        rw [h] at htl
        simp only [List.length_nil] at htl
        omega
      · simp only [htl, show i + n - i = n by omega]
        exact ⟨h0', trivial⟩
      · simp only at hg
        omega
    | bad e =>
      rw [lexA_bad hs] at h0
      have h0' : e = 0 := h0
      rcases stepL_bad hs with rfl | rfl <;> cases h0'

end Go.Proofs.YtcefcfipomfpkaaDoor
