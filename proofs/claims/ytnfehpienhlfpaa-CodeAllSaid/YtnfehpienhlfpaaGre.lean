/- Great, Num. Numbers and types by name. -/
import Derived.Test.YtnfehpienhlfpaaPur
namespace Go.Proofs.Ytnfehpienhlfpaa
open Go.RowKit Go.Lib

theorem num_any (k : Int) (w : World) : Calls Try.prog 19 #[.int .i64 k] w fun e w' => e = .returned (.int .i64 k) ∧ w = w' := by
  go_enter Try.func19, Try.ntmps19
  go_wp2
  go_ret
  exact ⟨rfl, rfl⟩

/-- A list of texts can be read, and its texts are no longer than texts can be. -/
def Texts (w : World) (v : Value) (n : Nat) (L : List ByteArray) : Prop := n = L.length ∧ Reads w v (sv L) ∧ n ≤ maxLen ∧ ∀ s ∈ L, s.size ≤ maxLen

theorem Texts.shape {w : World} {v : Value} {n : Nat} {L : List ByteArray} (h : Texts w v n L) : ∃ ao c, v = .slice ao n c := by
  obtain ⟨rfl, ⟨ao, c, rfl, _⟩, _⟩ := h
  exact ⟨ao, c, by rw [sv_length]⟩

theorem Texts.at {w : World} {ao : Option Addr} {n c : Nat} {L : List ByteArray} (h : Texts w (.slice ao n c) n L) {k : Nat} (hk : k < n) : ∃ a s, ao = some a ∧ L[k]? = some s ∧ w.cell? (a.add k) = some (.string s) ∧ s.size ≤ maxLen := by
  obtain ⟨rfl, ⟨ao', c', e, _, hn, hc⟩, _, hs⟩ := h
  simp only [Value.slice.injEq] at e
  obtain ⟨rfl, _, _⟩ := e
  have hx : L[k]? = some L[k] := List.getElem?_eq_getElem hk
  cases ao with
  | none => have := (hn rfl).1; have : L = [] := by simpa [sv] using this
            subst this; simp at hk
  | some a => exact ⟨a, L[k], rfl, hx, hc a rfl k _ (by simp [sv, hx]), hs _ (List.getElem_mem _)⟩

theorem take_next {α : Type} {L : List α} {k : Nat} {s : α} (h : L[k]? = some s) : L.take (k + 1) = L.take k ++ [s] := by rw [List.take_add_one, h]; rfl

/-- What Great leaves. -/
def Greats (L : List ByteArray) (w : World) (e : Ending) (w' : World) : Prop := ∃ b, e = .returned (.bool b) ∧ w = w' ∧ (b = false → bulk L ≤ 5000)

theorem great_any (v : Value) (n : Nat) (L : List ByteArray) (w : World) (hr : Texts w v n L) :
    Calls Try.prog 8 #[v] w (Greats L w) := by
  obtain ⟨ao, c, rfl⟩ := hr.shape
  have HR := Lib.hid hr
  have hm := hr.2.2.1
  unfold maxLen at hm
  clear hr
  go_enter Try.func8, Try.ntmps8
  go_wp2_with fail
  go_loopw [3, 4] (fun nv i wr => ∃ k m : Nat, k ≤ n ∧ i = .int .i64 k ∧ nv = .int .i64 m ∧ m ≤ 10002 ∧ Hid (m ≤ 5000 → bulk (L.take k) = m) ∧ w = wr)
    (fun nv _ _ => 10003 - (intOf nv).toNat)
  case atStart => exact ⟨0, 0, Nat.zero_le _, rfl, rfl, by omega, Lib.hid (fun _ => rfl), rfl⟩
  case round =>
    obtain ⟨k, m, hk, rfl, rfl, hmm, hb, rfl⟩ := hrel
    by_cases h1 : k < n
    · have h3 : (k : Int) < (n : Int) := by omega
      by_cases h2 : m ≤ 5000
      · have h4 : (m : Int) ≤ 5000 := by omega
        obtain ⟨a, s, rfl, hs, hc, hsz⟩ := HR.out.at h1
        have HS := Lib.hid hs
        unfold maxLen at hsz
        clear hs
        have hb2 := hb.out h2
        go_wp2_with fail
        have hb3 : bulk (L.take (k + 1)) = m + (1 + s.size) := by rw [take_next HS.out, bulk_append, hb2]; simp [bulk]
        refine ⟨⟨k + 1, m + 1 + min s.size 5001, by omega, by simp, ?_, by omega, Lib.hid (fun h => by omega), trivial⟩, ?_⟩
        · congr 1; omega
        · simp only [intOf]; omega
      · have h4 : ¬ (m : Int) ≤ 5000 := by omega
        have h5 : (5000 : Int) < (m : Int) := by omega
        go_wp2_with fail
        go_ret
        exact ⟨true, rfl, rfl, by intro h; cases h⟩
    · have h3 : ¬ (k : Int) < (n : Int) := by omega
      go_wp2_with fail
      go_ret
      refine ⟨_, rfl, rfl, fun h => ?_⟩
      have h5 : ¬ (5000 : Int) < (m : Int) := of_decide_eq_false h
      have h6 := hb.out (by omega)
      have h7 : k = L.length := by have := HR.out.1; omega
      rw [h7, List.take_length] at h6
      omega

end Go.Proofs.Ytnfehpienhlfpaa
