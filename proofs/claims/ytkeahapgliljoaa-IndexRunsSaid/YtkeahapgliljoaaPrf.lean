/- The reference's RightPairs and Find; Great of pairs. Numbers and types by name. -/
import Derived.Test.YtkeahapgliljoaaPrl
import Derived.Lib.Hide
import Derived.Sort.Walk0
namespace Go.Proofs.Ytkeahapgliljoaa
open Go.RowKit Go.Lib Go.Sort

/-- What stands at a key. -/
def findP (L : List Prm) (k : ByteArray) : ByteArray × Bool := match L.find? (fun o => decide (o.key = k)) with
  | none => (⟨#[]⟩, false)
  | some o => (o.val, true)

theorem find_first {L : List Prm} {k : ByteArray} {j : Nat} {o : Prm} (h : L[j]? = some o) (hk : o.key = k) (hs : ∀ x ∈ L.take j, x.key ≠ k) : L.find? (fun o => decide (o.key = k)) = some o := by
  have e : L = L.take j ++ o :: L.drop (j + 1) := by
    have := List.take_append_drop j L
    obtain ⟨hl, e2⟩ := List.getElem?_eq_some_iff.1 h
    rw [List.drop_eq_getElem_cons hl, e2] at this
    exact this.symm
  rw [e, List.find?_append, List.find?_eq_none.2 (fun x hx => by simpa using hs x hx)]
  simp [hk]

set_option maxHeartbeats 1000000 in
theorem find_pairs (v : Value) (n : Nat) (L : List Prm) (key : ByteArray) (w : World) (hr : Prr w v n L) :
    Calls Try.prog 9 #[v, .string key] w fun e w' => e = .returned (.tuple #[.string (findP L key).1, .bool (findP L key).2]) ∧ w' = w := by
  obtain ⟨ao, c, rfl⟩ := hr.shape
  have HR := Lib.hid hr
  have hm := hr.2.1
  unfold maxLen at hm
  clear hr
  go_enter Try.func9, Try.ntmps9
  go_wp2_with fail
  go_loopw [6] (fun i wr => ∃ k : Nat, k ≤ n ∧ i = .int .i64 k ∧ Hid (∀ x ∈ L.take k, x.key ≠ key) ∧ w = wr)
    (fun i _ => n - (RowKit.intOf i).toNat)
  case atStart => exact ⟨0, Nat.zero_le _, rfl, Lib.hid (fun x h => by simp at h), rfl⟩
  case round =>
    obtain ⟨k, hk, rfl, hs, rfl⟩ := hrel
    by_cases hlt : k < n
    · have h3 : (k : Int) < (n : Int) := by omega
      obtain ⟨a, o, rfl, ho, c0, c1, _, _⟩ := HR.out.at hlt
      have HO := Lib.hid ho
      clear ho
      obtain ⟨ok, ov⟩ := o
      simp only at c0 c1
      by_cases heq : ok.toList = key.toList
      · obtain rfl := text_inj' heq
        have HF : Hid (findP L ok = (ov, true)) := Lib.hid (by unfold findP; rw [find_first HO.out rfl hs.out])
        clear heq
        go_wp2_with fail
        go_ret2
        rw [HF.out]
        exact ⟨rfl, rfl⟩
      · have HN : Hid (ok ≠ key) := Lib.hid (fun e => heq (by rw [e]))
        have hbq : (ok.toList == key.toList) = false := by simpa using heq
        have hbd : ¬ ok = key := HN.out
        go_wp2_with fail
        refine ⟨⟨k + 1, by omega, by simp, Lib.hid (fun x hx => ?_), trivial⟩, by simp [RowKit.intOf]; omega⟩
        rw [take_next HO.out] at hx
        rcases List.mem_append.1 hx with hx | hx
        · exact hs.out x hx
        · simp only [List.mem_singleton] at hx
          subst hx
          exact HN.out
    · have h3 : ¬ (k : Int) < (n : Int) := by omega
      have HF : Hid (findP L key = (⟨#[]⟩, false)) := Lib.hid (by
        have hs' := hs.out
        rw [List.take_of_length_le (by have := HR.out.1; omega)] at hs'
        unfold findP
        rw [List.find?_eq_none.2 (fun x hx => by simpa using hs' x hx)])
      go_wp2_with fail
      go_ret2
      rw [HF.out]
      exact ⟨rfl, rfl⟩

end Go.Proofs.Ytkeahapgliljoaa
