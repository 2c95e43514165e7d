/- The index's lists: where the entry of a key stands. Numbers and types by name. -/
import Derived.Test.YtkeahapgliljoaaIxk
namespace Go.Proofs.Ytkeahapgliljoaa
open Go.RowKit Go.Lib
set_option maxRecDepth 100000

def hasK (k : ByteArray) (o : Prm) : Bool := decide (o.key = k)
/-- Where the first pair with a key stands. -/
def posI (r : Option Nat) : Int := match r with | none => -1 | some i => (i : Int)

theorem same_key (o : Prm) (k : ByteArray) (c : Nat) (w : World) (hc : w.cell? ⟨c, 0, none⟩ = some (.string k)) :
    Calls Try.prog 33 #[.agg #[.string o.key, .string o.val], .pointer (some ⟨c, 0, none⟩)] w fun e w' => e = .returned (.bool (hasK k o)) ∧ Grow w w' := by
  obtain ⟨ok, ov⟩ := o
  have hlt := World.block_lt_of_cell? w _ hc
  have hc' : (w.alloc (.cells #[.string ok, .string ov] 56)).cell? ⟨c, 0, none⟩ = some (.string k) := grow_cell (Below.alloc (Below.refl _ _) (Nat.le_refl _) _ : Grow w _) hc
  have HB : Hid (Grow w (w.alloc (.cells #[.string ok, .string ov] 56))) := Lib.hid (Below.alloc (Below.refl _ _) (Nat.le_refl _) _)
  have hd : (ok.toList == k.toList) = hasK k ⟨ok, ov⟩ := by
    unfold hasK
    rw [Bool.eq_iff_iff, beq_iff_eq, decide_eq_true_eq]
    exact ⟨fun h => text_inj' h, fun h => by simp only at h; rw [h]⟩
  generalize hasK k ⟨ok, ov⟩ = r at hd ⊢
  go_enter Try.func33, Try.ntmps33
  go_wp2_with fail
  go_ret
  exact ⟨rfl, HB.out⟩

theorem index_func (v : Value) (n : Nat) (E : List Prm) (k : ByteArray) (c : Nat) (w : World) (hc : w.cell? ⟨c, 0, none⟩ = some (.string k)) (hr : Cells w v 2 n (pvs E)) (hn : n = E.length) (hl : n ≤ 1000000) :
    Calls Try.prog 32 #[v, .func (.func 33) #[] #[.pointer (some ⟨c, 0, none⟩)]] w fun e w' => e = .returned (.int .i64 (posI (E.findIdx? (hasK k)))) ∧ Grow w w' := by
  obtain ⟨ao, cap, rfl⟩ : ∃ ao cap, v = .slice ao n cap := by obtain ⟨ao, cap, rfl, _⟩ := hr; exact ⟨ao, cap, rfl⟩
  have HR := Lib.hid (And.intro hr (And.intro hc hn))
  clear hr hc hn
  go_enter Try.func32, Try.ntmps32
  go_wp2_with fail
  go_loopw [8] (fun i wr => ∃ m : Nat, i = .int .i64 m ∧ m ≤ n ∧ Hid (Grow w wr ∧ ∀ j o, j < m → E[j]? = some o → hasK k o = false))
    (fun i _ => n - (RowKit.intOf i).toNat)
  case atStart => exact ⟨0, rfl, Nat.zero_le _, Lib.hid ⟨Grow.refl _, fun j o h _ => by omega⟩⟩
  case round =>
    obtain ⟨m, rfl, hm, hs⟩ := hrel
    by_cases hlt : m < n
    · have h3 : (m : Int) < (n : Int) := by omega
      obtain ⟨a, o, rfl, ho, c0⟩ : ∃ a o, ao = some a ∧ E[m]? = some o ∧ Hid (∀ j u, (pv o)[j]? = some u → wr.cell? (a.add (m * 2 + j)) = some u) := by
        obtain ⟨ao', cap', e, h0, hnc, hnn, hcc⟩ := HR.out.1.later hs.out.1
        simp only [Value.slice.injEq] at e
        obtain ⟨rfl, _, rfl⟩ := e
        have hx : E[m]? = some (E[m]'(by have := HR.out.2.2; omega)) := List.getElem?_eq_getElem _
        generalize E[m]'(by have := HR.out.2.2; omega) = o at hx
        cases ao with
        | none => have := (hnn rfl).1; omega
        | some a => exact ⟨a, o, rfl, hx, Lib.hid fun j u hj => hcc a rfl _ _ (by rw [pvs_at hx j (by have := (List.getElem?_eq_some_iff.1 hj).1; simpa [pv] using this)]; exact hj)⟩
      have l0 : wr.cell? (a.add (m * 2)) = some (.string o.key) := c0.out 0 _ rfl
      have l1 : wr.cell? ⟨(a.add (m * 2)).block, (a.add (m * 2)).off + 1, none⟩ = some (.string o.val) := by
        have := c0.out 1 _ rfl
        rw [← Addr.add_add] at this
        exact this
      have P := same_key o k c wr (grow_cell hs.out.1 HR.out.2.1)
      have HO := Lib.hid ho
      clear ho c0
      obtain ⟨ok, ov⟩ := o
      simp only at l0 l1 P
      generalize hq : hasK k ⟨ok, ov⟩ = r at P
      have HQ := Lib.hid hq
      clear hq
      go_wp2_with fail
      refine P.mono ?_
      rintro e w' ⟨rfl, h1⟩
      cases r with
      | true =>
        go_wp2_with fail
        go_ret
        refine ⟨?_, hs.out.1.trans h1⟩
        have hf : E.findIdx? (hasK k) = some m := by
          refine List.findIdx?_eq_some_iff_getElem.2 ⟨(List.getElem?_eq_some_iff.1 HO.out).1, ?_, ?_⟩
          · rw [(List.getElem?_eq_some_iff.1 HO.out).2]; exact HQ.out
          · intro j hj
            have := hs.out.2 j _ hj (List.getElem?_eq_getElem (by have := (List.getElem?_eq_some_iff.1 HO.out).1; omega))
            simpa using this
        rw [hf]
        rfl
      | false =>
        go_wp2_with fail
        refine ⟨⟨m + 1, by go_num, by omega, Lib.hid ⟨hs.out.1.trans h1, fun j o hj ho => ?_⟩⟩, by simp [RowKit.intOf]; omega⟩
        by_cases e : j = m
        · subst e
          rw [HO.out] at ho
          cases ho
          exact HQ.out
        · exact hs.out.2 j o (by omega) ho
    · have h3 : ¬ (m : Int) < (n : Int) := by omega
      obtain rfl : m = n := by omega
      go_wp2_with fail
      go_ret
      refine ⟨?_, hs.out.1⟩
      rw [List.findIdx?_eq_none_iff.2 (fun o ho => ?_)]
      · rfl
      · obtain ⟨j, hj⟩ := List.getElem?_of_mem ho
        exact hs.out.2 j o (by have := (List.getElem?_eq_some_iff.1 hj).1; have := HR.out.2.2; omega) hj

/-- The entry of a key is looked for in the list at a place. -/
theorem find_any (p : Addr) (v : Value) (n : Nat) (E : List Prm) (k : ByteArray) (w : World) (hp : w.cell? p = some v) (hr : Cells w v 2 n (pvs E)) (hn : n = E.length) (hl : n ≤ 1000000) :
    Calls Try.prog 26 #[.pointer (some p), .string k] w fun e w' => e = .returned (.int .i64 (posI (E.findIdx? (hasK k)))) ∧ Grow w w' := by
  have HB : Hid (Grow w (w.alloc (.cells #[.string k] 9))) := Lib.hid (Below.alloc (Below.refl _ _) (Nat.le_refl _) _)
  have P := index_func v n E k w.heap.size _ (by simp) (hr.later HB.out) hn hl
  have hp' := grow_cell HB.out hp
  clear hr hp
  generalize posI (E.findIdx? (hasK k)) = r at P ⊢
  go_enter Try.func26, Try.ntmps26
  go_wp2_with fail
  refine P.mono ?_
  rintro e w' ⟨rfl, h1⟩
  go_wp2_with fail
  go_ret
  exact ⟨rfl, HB.out.trans h1⟩

end Go.Proofs.Ytkeahapgliljoaa
