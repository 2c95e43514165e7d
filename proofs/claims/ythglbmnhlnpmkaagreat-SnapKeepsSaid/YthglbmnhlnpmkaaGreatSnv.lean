/- A list of pairs made right by the reference's Apply. Numbers and types by name. -/
import Derived.Test.YthglbmnhlnpmkaaGreatSno
namespace Go.Proofs.YthglbmnhlnpmkaaGreat
open Go.RowKit Go.Lib

theorem num_at (k : Int) (w : World) : Calls Tryz.prog 13 #[.int .i64 k] w fun e w' => e = .returned (.int .i64 k) ∧ w = w' :=
  (num_eq k w).mono fun _ _ h => ⟨h.1, h.2.symm⟩

theorem bulkP_mem {L : List Prm} {o : Prm} (h : o ∈ L) : o.key.size + o.val.size ≤ bulkP L := by
  induction L with
  | nil => cases h
  | cons a l ih =>
    rw [bulkP_cons]
    rcases List.mem_cons.1 h with rfl | h
    · omega
    · have := ih h; omega
theorem apply_nil (v : Value) (n : Nat) (L : List Prm) (w : World) (hr : Prr w v n L) (hb : bulkP L ≤ 3000) :
    Calls Tryz.prog 20 #[v, .slice none 0 0] w fun e w' => ∃ ao q c, e = .returned (.slice ao q c) ∧ Prr w' (.slice ao q c) q (baseP L) ∧ Grow w w' := by
  have hn : n ≤ 3000 := by have := hr.1; have := bulkP_length L; omega
  refine (ref_apply v (.slice none 0 0) n 0 L [] w hr (Opr.nil w) hn (by omega)).mono ?_
  rintro e w' ⟨ao, q, c, rfl, hq, ho, hb2⟩
  refine ⟨ao, q, c, rfl, ?_, hb2⟩
  have e1 : applyP L [] = baseP L := rfl
  rw [e1] at hq ho
  have h3 := bulkP_base L
  have h4 := bulkP_length (baseP L)
  have := ho.prr (by unfold maxLen; omega) (fun o hm => by have := bulkP_mem hm; unfold maxLen; exact ⟨by omega, by omega⟩)
  rw [← hq] at this
  exact this

end Go.Proofs.YthglbmnhlnpmkaaGreat
