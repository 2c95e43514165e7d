/- The reference's comparing of trees: nodes, texts, expressions. Numbers and types by name. -/
import Derived.Test.YtejaikpnfhhmnaaDoorSma
import Derived.Test.YtejaikpnfhhmnaaDoorPer
namespace Go.Proofs.YtejaikpnfhhmnaaDoor
open Go.RowKit Go.Lib
set_option maxRecDepth 100000

/-- What comparing tells. -/
def Cmp (X : Prop) (w : World) (e : Ending) (w' : World) : Prop := ∃ b : Bool, e = .returned (.bool b) ∧ (b = true ↔ X) ∧ Grow w w'
theorem er_take_next {α β : Type} (f : α → β) {a b : List α} {k : Nat} {x y : α} (hx : a[k]? = some x) (hy : b[k]? = some y) (h : (a.take k).map f = (b.take k).map f) (hf : f x = f y) : (a.take (k + 1)).map f = (b.take (k + 1)).map f := by
  rw [take_next hx, take_next hy, List.map_append, List.map_append, h]
  simp [hf]
theorem map_at {α β : Type} (f : α → β) {a b : List α} {k : Nat} {x y : α} (hx : a[k]? = some x) (hy : b[k]? = some y) (h : a.map f = b.map f) : f x = f y := by
  have := congrArg (·[k]?) h
  simpa [List.getElem?_map, hx, hy] using this

theorem two_new (w : World) (o p : Obj) : ((w.alloc o).alloc p).drew.heap[w.heap.size]? = some o ∧ ((w.alloc o).alloc p).drew.heap[w.heap.size + 1]? = some p ∧ Grow w ((w.alloc o).alloc p).drew := by
  have hsz : (w.alloc o).heap.size = w.heap.size + 1 := by simp
  refine ⟨(heap_alloc_old (w.alloc o) p (by rw [hsz]; exact Nat.lt_succ_self _)).trans (heap_alloc_new w o), ?_, (((Below.refl _ w).alloc (Nat.le_refl _) _).alloc (by simp) _).drew⟩
  have := heap_alloc_new (w.alloc o) p
  rw [hsz] at this
  exact this
theorem txs_at {w : World} {ao : Option Addr} {n c : Nat} {l : List (List UInt8)} (h : TRows w 1 TxtT (.slice ao n c) l) {k : Nat} (hk : k < n) : ∃ a o, ao = some a ∧ l[k]? = some o ∧ w.cell? (a.add k) = some (.string (tx o)) := by
  obtain ⟨a, o, cs, rfl, ho, rfl, _, h1, _⟩ := h.at hk
  exact ⟨a, o, rfl, ho, by have := h1 _ rfl; rwa [Nat.mul_one] at this⟩
theorem cmp_texts (v1 v2 : Value) (a b : List (List UInt8)) (w : World) (h1 : TRows w 1 TxtT v1 a) (h2 : TRows w 1 TxtT v2 b) :
    Calls Tryd.prog 30 #[v1, v2] w (Cmp (a = b) w) := by
  obtain ⟨a1, c1, rfl⟩ := h1.shape
  obtain ⟨a2, c2, rfl⟩ := h2.shape
  have m1 := h1.1
  have hml : a.length ≤ 9223372036854775807 := Nat.le_trans m1 (by decide)
  have H1 := Lib.hid h1
  have H2 := Lib.hid h2
  clear h1 h2
  obtain ⟨n, hn⟩ : ∃ n, a.length = n := ⟨_, rfl⟩
  obtain ⟨m, hm⟩ : ∃ n, b.length = n := ⟨_, rfl⟩
  rw [hn] at H1 m1 hml ⊢
  rw [hm] at H2 ⊢
  have HN := Lib.hid (And.intro hn hm)
  clear hn hm
  by_cases hne : n = m
  · subst hne
    go_enter Tryd.func30, Tryd.ntmps30
    go_wp2_with fail
    go_loopw [5] (fun i wr => ∃ k : Nat, k ≤ n ∧ i = .int .i64 k ∧ Hid (Grow w wr ∧ a.take k = b.take k))
      (fun i _ => n - (RowKit.intOf i).toNat)
    case atStart => exact ⟨0, Nat.zero_le _, rfl, Lib.hid ⟨Grow.refl w, rfl⟩⟩
    case round =>
      obtain ⟨k, hk, rfl, hG⟩ := hrel
      by_cases h1 : k < n
      · have h3 : (k : Int) < (n : Int) := by omega
        obtain ⟨x1, o1, rfl, e1, g1⟩ := txs_at (TRows.imp H1.out hG.out.1 fun _ _ h => h) h1
        obtain ⟨x2, o2, rfl, e2, g2⟩ := txs_at (TRows.imp H2.out hG.out.1 fun _ _ h => h) h1
        have HE := Lib.hid (And.intro e1 e2)
        clear e1 e2
        by_cases ho : o1 = o2
        · subst ho
          have HG : Hid (Grow w wr ∧ a.take (k + 1) = b.take (k + 1)) := Lib.hid ⟨hG.out.1, by rw [take_next HE.out.1, take_next HE.out.2, hG.out.2]⟩
          go_wp2_with fail
          go_quiet (fail)
          go_wp2
          case roundEnd => exact ⟨⟨k + 1, by omega, by go_num, Lib.hid ⟨below_drewN HG.out.1 _, HG.out.2⟩⟩, by simp [RowKit.intOf]; omega⟩
        · have y1 := tx_list o1
          have y2 := tx_list o2
          have ho2 : (o1 == o2) = false := by simpa using ho
          have ho3 : (o1 != o2) = true := by simpa using ho
          have HX : Hid (a ≠ b) := Lib.hid (by
            rintro rfl
            have e := HE.out.1.symm.trans HE.out.2
            simp only [Option.some.injEq] at e
            exact ho e)
          go_wp2_with fail
          go_quiet (fail)
          go_wp2
          go_ret
          exact ⟨false, rfl, ⟨(fun h => by cases h), fun h => absurd h HX.out⟩, below_drewN hG.out.1 _⟩
      · have h3 : ¬ (k : Int) < (n : Int) := by omega
        obtain rfl : k = n := by omega
        go_wp2_with fail
        go_ret
        refine ⟨true, rfl, ⟨fun _ => ?_, fun _ => rfl⟩, hG.out.1⟩
        have := hG.out.2
        rw [List.take_of_length_le (by rw [HN.out.1]; exact Nat.le_refl _), List.take_of_length_le (by rw [HN.out.2]; exact Nat.le_refl _)] at this
        exact this
  · have h3 : ¬ (n : Int) = (m : Int) := by omega
    have h4 : ((n : Int) != (m : Int)) = true := by simpa using h3
    go_enter Tryd.func30, Tryd.ntmps30
    go_wp2_with fail
    go_ret
    refine ⟨false, rfl, ⟨(fun h => by cases h), fun h => ?_⟩, Grow.refl w⟩
    have := congrArg List.length h
    rw [HN.out.1, HN.out.2] at this
    exact absurd this hne

/-- But for places, or with them. -/
def Nd.nrm (t : Bool) (o : Nd) : Nd := if t = true then o else o.er
theorem Nd.nrm_er {t : Bool} {o p : Nd} (h : o.nrm t = p.nrm t) : o.er = p.er := by
  unfold Nd.nrm at h
  split at h
  · rw [h]
  · exact h
end Go.Proofs.YtejaikpnfhhmnaaDoor
