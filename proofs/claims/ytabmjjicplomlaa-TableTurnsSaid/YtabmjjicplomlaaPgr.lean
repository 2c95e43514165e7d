/- Great, of pairs. Numbers and types by name. -/
import Derived.Test.YtabmjjicplomlaaPtb
namespace Go.Proofs.Ytabmjjicplomlaa
open Go.RowKit Go.Lib

theorem bulkP_append (L M : List Prm) : bulkP (L ++ M) = bulkP L + bulkP M := by simp [bulkP]

/-- What Great leaves. -/
def GreatP (L : List Prm) (w : World) (e : Ending) (w' : World) : Prop := ∃ b q, e = .returned (.bool b) ∧ w' = w.drewN q ∧ (b = false → bulkP L ≤ 3000)

theorem great_pairs (v : Value) (n : Nat) (L : List Prm) (w : World) (hr : Prr w v n L) :
    Calls Try.prog 8 #[v] w (GreatP L w) := by
  obtain ⟨ao, c, rfl⟩ := hr.shape
  have HR := Lib.hid hr
  have hm := hr.2.1
  unfold maxLen at hm
  clear hr
  go_enter Try.func8, Try.ntmps8
  go_wp2_with fail
  go_loopw [3, 4] (fun nv i wr => ∃ k m q : Nat, k ≤ n ∧ i = .int .i64 k ∧ nv = .int .i64 m ∧ m ≤ 9003 ∧ Hid (m ≤ 3000 → bulkP (L.take k) = m) ∧ wr = w.drewN q)
    (fun nv _ _ => 9004 - (RowKit.intOf nv).toNat)
  case atStart => exact ⟨0, 0, 0, Nat.zero_le _, rfl, rfl, by omega, Lib.hid (fun _ => rfl), rfl⟩
  case round =>
    obtain ⟨k, m, q, hk, rfl, rfl, hmm, hb, hw⟩ := hrel
    by_cases h1 : k < n
    · have h3 : (k : Int) < (n : Int) := by omega
      by_cases h2 : m ≤ 3000
      · have h4 : (m : Int) ≤ 3000 := by omega
        have HR' : Prr wr (.slice ao n c) n L := by rw [hw]; exact HR.out
        obtain ⟨a, o, rfl, ho, c1, c2, s1, s2⟩ := HR'.at h1
        have HS := Lib.hid (And.intro ho hw)
        unfold maxLen at s1 s2
        have hb2 := hb.out h2
        have d1 : ∀ j, (wr.drewN j).cell? (a.add (k * 2)) = some (.string o.key) := fun _ => c1
        have d2 : ∀ j, (wr.drewN j).cell? ⟨(a.add (k * 2)).block, (a.add (k * 2)).off + 1, none⟩ = some (.string o.val) := fun _ => c2
        clear ho hw c1 c2 HR'
        go_wp2_with fail
        go_quiet (fail)
        go_wp2
        have hb3 : bulkP (L.take (k + 1)) = m + (1 + o.key.size + o.val.size) := by rw [take_next HS.out.1, bulkP_append, hb2]; simp [bulkP]
        refine ⟨⟨k + 1, m + 1 + min o.key.size 3001 + min o.val.size 3001, q + nq, by omega, by simp, ?_, by omega, Lib.hid (fun h => by omega), by rw [HS.out.2, World.drewN_drewN]⟩, ?_⟩
        · congr 1; omega
        · simp only [RowKit.intOf]; omega
      · have h4 : ¬ (m : Int) ≤ 3000 := by omega
        have h5 : (3000 : Int) < (m : Int) := by omega
        have HW := Lib.hid hw
        clear hw
        go_wp2_with fail
        go_ret
        exact ⟨true, q, rfl, HW.out, by intro h; cases h⟩
    · have h3 : ¬ (k : Int) < (n : Int) := by omega
      have HW := Lib.hid hw
      clear hw
      go_wp2_with fail
      go_ret
      refine ⟨_, q, rfl, HW.out, fun h => ?_⟩
      have h5 : ¬ (3000 : Int) < (m : Int) := of_decide_eq_false h
      have h6 := hb.out (by omega)
      have h7 : k = L.length := by have := HR.out.1; omega
      rw [h7, List.take_length] at h6
      omega

end Go.Proofs.Ytabmjjicplomlaa
