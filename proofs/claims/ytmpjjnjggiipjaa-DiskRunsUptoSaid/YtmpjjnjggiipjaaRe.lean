/- The reference's row of files: a file out of it. Numbers and types by name. -/
import Derived.Test.YtmpjjnjggiipjaaRg
import Derived.Test.YtmpjjnjggiipjaaCel
namespace Go.Proofs.Ytmpjjnjggiipjaa
open Go.RowKit Go.Maps Go.Sort Go.WideMaps

theorem elemFile : Elem 36 79 (.agg #[.string ⟨#[]⟩, .slice none 0 0, .int .i64 0]) 3 48 := ⟨Try.underlying36, by kernel_rfl, by decide, by decide⟩

theorem turn_below {w w' : World} (h : Below w.heap.size w w') : Turn [] w w' := ⟨h.os, h.tape, h.output, h.size, fun k hk _ => h.block k hk⟩

theorem TellR.nil (w : World) (G : List Nat) : TellR w G [] [] := ⟨rfl, fun j x h => by cases h⟩
theorem TellR.snoc {w : World} {G : List Nat} {xs : List Value} {fs : List Ent} (h : TellR w G xs fs) (x : Ent) (ao : Option Addr) (c : Nat) (hr : Reads w (.slice ao x.2.1.length c) (bv x.2.1)) (hG : x.2.1 ≠ [] → ∀ a, ao = some a → a.block ∈ G) :
    TellR w G (xs ++ [encStr x.1, .slice ao x.2.1.length c, .int .i64 (x.2.2 : Nat)]) (fs ++ [x]) := by
  obtain ⟨hl, hx⟩ := h
  refine ⟨by simp [hl, Nat.add_mul], fun j y hj => ?_⟩
  by_cases hjl : j < fs.length
  · rw [List.getElem?_append_left hjl] at hj
    obtain ⟨ao', c', e1, e2, e3, h4, h5⟩ := hx j y hj
    exact ⟨ao', c', by rw [List.getElem?_append_left (by omega)]; exact e1, by rw [List.getElem?_append_left (by omega)]; exact e2, by rw [List.getElem?_append_left (by omega)]; exact e3, h4, h5⟩
  · have hjl2 : j = fs.length := by
      have := (List.getElem?_eq_some_iff.1 hj).1
      simp at this; omega
    subst hjl2
    rw [List.getElem?_append_right (Nat.le_refl _), Nat.sub_self] at hj
    simp only [List.getElem?_cons_zero, Option.some.injEq] at hj
    subst hj
    refine ⟨ao, c, ?_, ?_, ?_, hr, hG⟩
    · rw [List.getElem?_append_right (by omega), show fs.length * 3 - xs.length = 0 by omega]; rfl
    · rw [List.getElem?_append_right (by omega), show fs.length * 3 + 1 - xs.length = 1 by omega]; rfl
    · rw [List.getElem?_append_right (by omega), show fs.length * 3 + 2 - xs.length = 2 by omega]; rfl

theorem erase_next {fs : List Ent} {i k : Nat} {x : Ent} (hx : fs[i]? = some x) (h : i ≠ k) : (fs.take (i + 1)).eraseIdx k = (fs.take i).eraseIdx k ++ [x] := by
  have hlt := (List.getElem?_eq_some_iff.1 hx).1
  have hl : (fs.take i).length = i := by rw [List.length_take]; omega
  rw [List.take_add_one, hx]
  simp only [Option.toList_some]
  by_cases hk : k < i
  · rw [List.eraseIdx_append_of_lt_length (by omega)]
  · rw [List.eraseIdx_of_length_le (by simp [hl]; omega), List.eraseIdx_of_length_le (by omega)]
theorem erase_skip {fs : List Ent} {k : Nat} {x : Ent} (hx : fs[k]? = some x) : (fs.take (k + 1)).eraseIdx k = (fs.take k).eraseIdx k := by
  have hlt := (List.getElem?_eq_some_iff.1 hx).1
  have hl : (fs.take k).length = k := by rw [List.length_take]; omega
  rw [List.take_add_one, hx]
  simp only [Option.toList_some]
  rw [List.eraseIdx_append_of_length_le (by omega), hl, Nat.sub_self, List.eraseIdx_of_length_le (l := fs.take k) (by omega)]
  simp

set_option maxHeartbeats 2000000 in
theorem ref_drop (r : Nat) (M : MD) (F G : List Nat) (k : Nat) (w : World) (h : RD w r M F G) (hl : M.fs.length < 900000) (hfit : Fit (M.fs.eraseIdx k)) :
    Calls Try.prog 49 #[theRef r, .int .i64 k] w fun e w' => e = .returned (.tuple #[]) ∧ RNext w w' r { M with fs := M.fs.eraseIdx k } F G [] := by
  obtain ⟨hf, s, ao, c, xs, hR, hP, hv, hown, hT, hF, hne, hGd⟩ := h
  obtain ⟨n, hn⟩ : ∃ n, n = M.fs.length := ⟨_, rfl⟩
  have HN := Lib.hid hn
  have HR := Lib.hid (And.intro hR (And.intro hP hfit))
  have HF := Lib.hid (And.intro hF (And.intro hne hGd))
  rw [← hn] at hv hown hl
  have HO := Lib.hid (And.intro hown (And.intro hT hv))
  clear hR hP hv hown hT hne hGd hF hn hf hfit
  unfold theRef
  go_enter Try.func49, Try.ntmps49
  go_wp2_with fail
  go_loopw [4, 5] (fun lv i wr => ∃ j : Nat, j ≤ n ∧ i = .int .i64 j ∧ Hid (∃ ao' m c' vs, lv = .slice ao' m c' ∧ m = ((M.fs.take j).eraseIdx k).length ∧ wr.ownsRow w.heap.size 79 3 (.slice ao' m c') m vs ∧ TellR wr G vs ((M.fs.take j).eraseIdx k) ∧ Below w.heap.size w wr))
    (fun _ i _ => n - (intOf i).toNat)
  case atStart => exact ⟨0, Nat.zero_le _, rfl, Lib.hid ⟨none, 0, 0, [], rfl, by simp, World.ownsRow_nil _ _ _ _, by simpa using TellR.nil w G, Below.refl _ _⟩⟩
  case round =>
    obtain ⟨j, hj, rfl, hrel⟩ := hrel
    obtain ⟨ao', m, c', vs, rfl, hm, hownL, hTL, hbel⟩ := hrel.out
    clear hrel
    have hRr := HR.out.1.turn (turn_below hbel) (by simp)
    have c5 := hRr.c5
    rw [HO.out.2.2] at c5
    have hownr : wr.ownsRow 0 79 3 (.slice ao n c) n xs := owns_turn HO.out.1 (turn_below hbel) (by simp)
    have e5 := hRr.free 5
    clear hRr
    by_cases h1 : j < n
    · have h3 : (j : Int) < (n : Int) := by omega
      obtain ⟨x, hx⟩ : ∃ x, M.fs[j]? = some x := ⟨_, List.getElem?_eq_getElem (by have := HN.out; omega)⟩
      obtain ⟨ab, cb, q1, q2, q3, hrd, hgb⟩ := HO.out.2.1.2 j x hx
      have hxl : xs.length = n * 3 := by rw [HO.out.2.1.1, HN.out]
      obtain ⟨g, rfl, k1, _⟩ := row_cell hownr hxl q1
      obtain ⟨g2, e2, k2, _⟩ := row_cell hownr hxl q2
      obtain ⟨g3, e3, k3, _⟩ := row_cell hownr hxl q3
      cases e2
      cases e3
      unfold encStr at k1
      by_cases hjk : j = k
      · have hb : ((j : Int) != (k : Int)) = false := by simp [hjk]
        have HX := Lib.hid (And.intro hx (And.intro hownL (And.intro hTL (And.intro hbel (And.intro hm hjk)))))
        clear hx hownL hTL hbel hm hrd hgb hownr q1 q2 q3 hxl
        go_wp2_with fail
        obtain ⟨hx, hownL, hTL, hbel, hm, hjk⟩ := HX.out
        refine ⟨⟨j + 1, by omega, by simp [hjk], Lib.hid ⟨ao', m, c', vs, rfl, ?_, hownL, ?_, hbel⟩⟩, by simp [intOf]; omega⟩
        · rw [hjk] at hx hm ⊢
          rw [erase_skip hx]; exact hm
        · rw [hjk] at hx hTL ⊢
          rw [erase_skip hx]; exact hTL
      · have hb : ((j : Int) != (k : Int)) = true := by simp; omega
        have hml : m ≤ n := by
          rw [hm]
          have := List.length_eraseIdx_le (M.fs.take j) k
          rw [List.length_take] at this
          omega
        have FL : Hid (m + 1 ≤ 1000000) := Lib.hid (by omega)
        have HX := Lib.hid (And.intro hx (And.intro hownL (And.intro hTL (And.intro hbel (And.intro hm (And.intro hjk (And.intro hrd hgb)))))))
        clear hx hownL hTL hbel hm hrd hgb hownr q1 q2 q3 hxl
        go_wp2_with (at_builtin; refine wpList_append_gen elemFile rfl (.tmp 18) (.tmp 26) rfl w.heap.size (.slice ao' m c') m vs rfl (HX.out.2.1.alloc _) _ 1 [encStr x.1, .slice ab x.2.1.length cb, .int .i64 (x.2.2 : Nat)] rfl (Cells.lit wr [encStr x.1, .slice ab x.2.1.length cb, .int .i64 (x.2.2 : Nat)] 79 (0, 0) 3 1 rfl) (by intro u hu; simp only [List.mem_cons, List.not_mem_nil, or_false] at hu; rcases hu with rfl | rfl | rfl <;> rfl) (m + 1) rfl FL (by decide) (Nat.le_trans HX.out.2.2.2.1.size (by simp)) ?_; intro ao6 c6 w6 hown6 hb6 hg6 ho6)
        obtain ⟨hx, hownL, hTL, hbel, hm, hjk, hrd, hgb⟩ := HX.out
        have hbw : Below w.heap.size w w6 := hbel.trans (((Below.refl _ wr).alloc hbel.size _).trans hb6)
        refine ⟨⟨j + 1, by omega, by simp, Lib.hid ⟨ao6, m + 1, c6, _, rfl, ?_, hown6, ?_, hbw⟩⟩, by simp [intOf]; omega⟩
        · rw [erase_next hx hjk, List.length_append, ← hm]; rfl
        · rw [erase_next hx hjk]
          have tw := turn_below hbw
          have t2 : Turn [] wr (wr.alloc (.cells #[encStr x.1, .slice ab x.2.1.length cb, .int .i64 (x.2.2 : Nat)] 79)) := (Turn.refl [] wr).alloc _
          have hTL6 : TellR w6 G vs ((M.fs.take j).eraseIdx k) := by
            refine ⟨hTL.1, fun i y hi => ?_⟩
            obtain ⟨a1, b1, e1, e2, e3, e4, e5⟩ := hTL.2 i y hi
            refine ⟨a1, b1, e1, e2, e3, ?_, e5⟩
            have hmem : y ∈ M.fs := List.mem_of_mem_take (List.mem_of_mem_eraseIdx (List.mem_of_getElem? hi))
            refine (e4.alloc (.cells #[encStr x.1, .slice ab x.2.1.length cb, .int .i64 (x.2.2 : Nat)] 79)).turn (F := (Value.slice ao' m c').ownBlock.toList) (Turn.of_grown hg6 (by intro k e; simp [e])) fun hne2 a n c e => ?_
            simp only [Value.slice.injEq] at e
            have h5 := (HF.out.2.2 _ (e5 (by intro e2; rw [e2] at hne2; exact hne2 rfl) a e.1)).2
            intro hmm
            have := (hownL.lt a.block (by simpa using hmm)).1
            omega
          exact hTL6.snoc x ab cb (hrd.turn tw (by simp)) hgb
    · have h3 : ¬ (j : Int) < (n : Int) := by omega
      obtain rfl : j = n := by omega
      have hkL : M.fs.take j = M.fs := List.take_of_length_le (by have := HN.out; omega)
      rw [hkL] at hm hTL
      have HX := Lib.hid (And.intro hownL (And.intro hTL (And.intro hbel hm)))
      clear hownL hTL hbel hm hownr
      go_wp2_with fail
      trace_state
      go_end0
      obtain ⟨hownL, hTL, hbel, hm⟩ := HX.out
      obtain ⟨hF, hne, hGd⟩ := HF.out
      obtain ⟨hR, hP, hfit⟩ := HR.out
      have tb := turn_below hbel
      have t5 : Turn [r] wr (wr.setCell ⟨r, 5, none⟩ (.slice ao' m c')) := (Turn.refl [r] wr).set (.inl (by simp)) 5 _
      have tw : Turn [r] w (wr.setCell ⟨r, 5, none⟩ (.slice ao' m c')) := (tb.mono (by simp)).trans t5
      have hrl := hR.lt
      have hG : ∀ q ∈ G, q ∉ [r] := fun q hq hm => (hGd q hq).1 (by simp at hm; simp [hm, hF])
      have hlow : ∀ g, (Value.slice ao' m c').ownBlock = some g → w.heap.size ≤ g := fun g hg => (hownL.lt g hg).1
      refine ⟨rfl, r :: (Value.slice ao' m c').ownBlock.toList, G, ⟨hfit, { s with fv := .slice ao' m c' }, ao', c', vs, (hR.turn tb (by simp)).set5 _, ?_, by rw [hm], ?_, hTL.turn t5 hG, by rw [hm], ?_, fun q hq => ⟨fun hqm => ?_, Nat.lt_of_lt_of_le (hGd q hq).2 tw.size⟩⟩, fun q hq => ?_, fun q hq => .inl hq, tw.mono (by rw [hF]; simp)⟩
      · have hP' := hP.turn tw hG
        exact ⟨hP.cap, hP.cr, hP.dn, hP.n, hP.dw, hP'.fail, hP'.keep, hP.failG, hP.keepG, hP.n0⟩
      · rw [← hm]
        exact owns_base (owns_turn hownL t5 (fun g hg => by have := hlow g hg; simp; omega)) (Nat.zero_le _)
      · rw [← hm]
        intro e
        have := hlow r e
        omega
      · simp only [List.mem_cons, Option.mem_toList] at hqm
        rcases hqm with rfl | hqm
        · exact hG q hq (by simp)
        · have := hlow q hqm
          have := (hGd q hq).2
          omega
      · simp only [List.mem_cons, Option.mem_toList] at hq
        rcases hq with rfl | hq
        · exact .inl (by rw [hF]; simp)
        · exact .inr (hlow q hq)

end Go.Proofs.Ytmpjjnjggiipjaa
