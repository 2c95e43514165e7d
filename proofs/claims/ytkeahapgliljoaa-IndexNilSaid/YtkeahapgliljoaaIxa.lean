/- The index's All. Numbers and types by name. -/
import Derived.Test.YtkeahapgliljoaaIxs
namespace Go.Proofs.Ytkeahapgliljoaa
open Go.RowKit Go.Lib Go.Sort
set_option maxRecDepth 100000

theorem sorted_is {A L : List Prm} (hp : A.Perm L) (hs : A.Pairwise fun a b => ¬ kD b < kD a) (hR : Rise L) : A = L := by
  have hap := rise_apart hR
  refine List.Perm.eq_of_pairwise (le := fun a b => ¬ kD b < kD a) (fun a b ha hb h1 h2 => ?_) hs (List.Pairwise.imp (fun {a b} hab h => ?_) hR) hp
  · have hk : a.key = b.key := text_inj' (by
      have : kD a = kD b := List.le_antisymm (List.not_lt.1 h1) (List.not_lt.1 h2)
      rw [ByteArray.toList_eq, ByteArray.toList_eq]
      exact this)
    have e1 := look_in hap (hp.subset ha)
    have e2 := look_in hap hb
    rw [hk, e2] at e1
    obtain ⟨ak, av⟩ := a
    obtain ⟨bk, bv⟩ := b
    simp only [Option.some.injEq] at hk e1
    rw [hk, e1]
  · have : kD a < kD b := by unfold kOf at hab; rw [ByteArray.toList_eq, ByteArray.toList_eq] at hab; exact hab
    exact List.lt_irrefl _ (List.lt_trans h this)

/-- What All has gathered. -/
def Gath (w wr : World) (ao : Option Addr) (s c : Nat) (A : List Prm) : Prop := s = A.length ∧ Grow w wr ∧ wr.ownsRow w.heap.size 49 2 (.slice ao s c) s (pvs A) ∧ ∃ g, ao = some ⟨g, 0, none⟩

set_option maxHeartbeats 4000000 in
theorem ix_all {w : World} {x : Nat} {L : List Prm} {F : List Nat} (h : CI w x L F) (hf : Fine L) :
    Calls Try.prog 16 #[theIx x] w fun e w' => ∃ ao q c, e = .returned (.slice ao q c) ∧ Prr w' (.slice ao q c) q L ∧ Turn [] w w' := by
  have P := ix_len h hf
  obtain ⟨b, m, sl, Es, hX, hS, rfl⟩ := h
  have hp := hS.perm hX.pos hf.rise
  have hL := hf.len
  have hmt := hX.top
  obtain ⟨i0, hi, hz0, hz1, hz2⟩ := info_parts elemPair.info
  have HX := Lib.hid (And.intro hX (And.intro hS (And.intro hp (And.intro hf hL))))
  clear hX hS hp hL hf
  unfold theIx at P ⊢
  go_enter Try.func16, Try.ntmps16
  go_wp2_with fail
  refine P.mono ?_
  rintro e w0 ⟨rfl, rfl⟩
  clear P
  go_wp2_with (at_make; go_loud (refine wpList_make_own _ rfl (.const (.int .i64 0)) (.tmp 11) _ rfl w.heap.size 49 i0 _ 2 Try.underlying27 hi hz0 hz1 .i64 .i64 (L.length : Int) L.length rfl rfl rfl (by rw [hz2]; have := HX.out.2.2.2.2; omega) (by have := HX.out.2.2.2.2; unfold maxLen; omega) (Nat.le_refl _) ?_; intro w1 hown1 hg1; have c1 := (HX.out.1.turn (Turn.of_none hg1 : Turn [] w w1) (by simp)).cell; have H1 := Lib.hid (And.intro hown1 hg1); clear hown1 hg1))
  go_loopw [3, 18] (fun v i wr => ∃ (k s c : Nat) (ao : Option Addr), k ≤ m ∧ i = .int .i64 k ∧ v = .slice ao s c ∧ Hid (Gath w wr ao s c (Es.take k).flatten))
    (fun _ i _ => m - (RowKit.intOf i).toNat)
  case atStart => exact ⟨0, 0, L.length, some ⟨w.heap.size, 0, none⟩, Nat.zero_le _, rfl, rfl, Lib.hid ⟨rfl, (tg9 (Turn.of_none H1.out.2)), H1.out.1, _, rfl⟩⟩
  case round =>
    obtain ⟨k, s, c, ao, hk, rfl, rfl, hG⟩ := hrel
    by_cases hlt : k < m
    · have h3 : (k : Int) < (m : Int) := by omega
      obtain ⟨v, hv⟩ : ∃ v, sl[k]? = some v := ⟨_, List.getElem?_eq_getElem (by rw [HX.out.1.slen]; exact hlt)⟩
      obtain ⟨E, hE⟩ : ∃ E, Es[k]? = some E := ⟨_, List.getElem?_eq_getElem (by rw [HX.out.2.1.len]; exact hlt)⟩
      obtain ⟨n, hn⟩ := HX.out.1.ent k v E hv hE
      obtain ⟨ae, ce, rfl⟩ := hn.shape
      have hcell := (HX.out.1.turn (tb9 hG.out.2.1) (by simp)).tbl.cell hv
      have hnl : n ≤ 1000 := by have := HX.out.2.1.short HX.out.1.pos HX.out.2.2.2.1.rise hE; have := hn.1; have := HX.out.2.2.2.2; omega
      have HE := Lib.hid (And.intro hE hn)
      clear hv hE hn
      go_wp2_with fail
      clear hcell
      go_loopw [3, 24] (fun v i wr => ∃ (j s c : Nat) (ao : Option Addr), j ≤ n ∧ i = .int .i64 j ∧ v = .slice ao s c ∧ Hid (Gath w wr ao s c ((Es.take k).flatten ++ E.take j)))
        (fun _ i _ => n - (RowKit.intOf i).toNat)
      case atStart => exact ⟨0, s, c, ao, Nat.zero_le _, rfl, rfl, Lib.hid (by simpa using hG.out)⟩
      case round =>
        clear hG
        obtain ⟨j, s, c, ao, hj, rfl, rfl, hG⟩ := hrel
        by_cases hjn : j < n
        · have h4 : (j : Int) < (n : Int) := by omega
          obtain ⟨o, ho⟩ : ∃ o, E[j]? = some o := ⟨_, List.getElem?_eq_getElem (by have := HE.out.2.1; omega)⟩
          obtain ⟨g, c2, e, _, d0, d1, _⟩ := (HE.out.2.turn (tb9 hG.out.2.1) (by simp)).at ho
          obtain ⟨rfl, _, rfl⟩ : ae = some ⟨g, 0, none⟩ ∧ n = n ∧ ce = c2 := by simpa using e
          have HO := Lib.hid ho
          obtain ⟨ok, ov⟩ := o
          simp only at d0 d1
          have FL : Hid (s + 1 ≤ 1000000) := Lib.hid (by
            have h5 := hG.out.1
            have h6 := flat_next HE.out.1
            have h7 := flat_le Es (k + 1)
            have h8 := HX.out.2.2.1.length_eq
            have h9 := HX.out.2.2.2.2
            have h10 : (E.take j).length ≤ E.length := List.length_take_le' _ _
            rw [h6, List.length_append] at h7
            rw [List.length_append] at h5
            omega)
          have HC : Hid (Cells ((wr.alloc (.cells #[.string ok, .string ov] 56)).alloc (.cells #[.string ok, .string ov] 49)) (.slice (some ⟨wr.heap.size + 1, 0, none⟩) 1 1) 2 1 (pv ⟨ok, ov⟩)) := Lib.hid (by
            have := Cells.lit (wr.alloc (.cells #[.string ok, .string ov] 56)) (pv ⟨ok, ov⟩) 49 (0, 0) 2 1 rfl
            rw [World.size_alloc] at this
            exact this)
          clear ho e
          go_wp2_with (at_builtin; go_loud (refine wpList_append_gen elemPair rfl (.tmp 28) (.tmp 34) rfl w.heap.size _ s _ rfl (own_alloc (own_alloc hG.out.2.2.1 _) _) _ 1 (pv ⟨ok, ov⟩) rfl HC.out (by intro u hu; simp only [pv, List.mem_cons, List.not_mem_nil, or_false] at hu; rcases hu with rfl | rfl <;> rfl) (s + 1) rfl FL (by decide) (by have := hG.out.2.1.size; simp; omega) ?_; intro ao6 c6 w6 hown6 hb6 hg6 ho6; have HA := Lib.hid (And.intro hown6 hb6); clear hown6 hb6 hg6 ho6))
          go_wp2_with fail
          refine ⟨⟨j + 1, s + 1, c6, ao6, by omega, by go_num, rfl, Lib.hid ?_⟩, by simp [RowKit.intOf]; omega⟩
          have e1 : (Es.take k).flatten ++ E.take (j + 1) = ((Es.take k).flatten ++ E.take j) ++ [⟨ok, ov⟩] := by rw [take_next HO.out, List.append_assoc]
          have e2 : ∀ l : List Prm, pvs (l ++ [⟨ok, ov⟩]) = pvs l ++ pv ⟨ok, ov⟩ := fun l => by simp [pvs]
          have hsz := hG.out.2.1.size
          refine ⟨by rw [e1, List.length_append, ← hG.out.1]; rfl, ?_, ?_, ?_⟩
          · exact (((hG.out.2.1 : Below _ _ _).alloc hsz _).alloc (by simp; omega) _).trans HA.out.2
          · rw [e1, e2]
            exact HA.out.1
          · obtain ⟨_, ⟨h1, h2⟩ | ⟨g6, cap, cur, e, _⟩⟩ := HA.out.1
            · omega
            · simp only [Value.slice.injEq] at e
              exact ⟨g6, e.1⟩
        · have h4 : ¬ (j : Int) < (n : Int) := by omega
          obtain rfl : j = n := by omega
          have hG2 : Hid (Gath w wr ao s c (Es.take (k + 1)).flatten) := Lib.hid (by
            rw [flat_next HE.out.1]
            have := hG.out
            rwa [List.take_of_length_le (l := E) (by have := HE.out.2.1; omega)] at this)
          clear hG
          go_wp2_with fail
          exact ⟨⟨k + 1, s, c, ao, by omega, by go_num, rfl, hG2⟩, by simp [RowKit.intOf]; omega⟩
    · have h3 : ¬ (k : Int) < (m : Int) := by omega
      obtain rfl : k = m := by omega
      have hG2 := hG.out
      rw [List.take_of_length_le (by have := HX.out.2.1.len; omega)] at hG2
      obtain ⟨hs, hg, hown, g, rfl⟩ := hG2
      have hsl := HX.out.2.2.1.length_eq
      have hgb := (hown.lt g rfl).1
      have hsc : s ≤ c := by
        obtain ⟨_, ⟨h1, h2⟩ | ⟨g6, cap, cur, e, _, _, h5, _⟩⟩ := hown
        · cases h1
        · simp only [Value.slice.injEq] at e
          obtain ⟨_, _, rfl⟩ := e
          exact h5
      have S := sort_pairs w.heap.size g s c Es.flatten wr hown hs (by have := HX.out.2.2.2.2; omega) hsc
      have HG := Lib.hid (And.intro hs (And.intro hg (And.intro hsl hgb)))
      clear hs hg hown hsl hgb hG
      go_wp2_with fail
      refine S.mono ?_
      rintro e w7 ⟨rfl, A', hp7, hs7, hc7, t7⟩
      have H7 := Lib.hid (And.intro hp7 (And.intro hs7 (And.intro hc7 t7)))
      clear hp7 hs7 hc7 t7 S
      go_wp2_with fail
      go_ret
      obtain ⟨hp7, hs7, hc7, t7⟩ := H7.out
      obtain ⟨hs, hg, hsl, hgb⟩ := HG.out
      have hAL : A' = L := sorted_is (hp7.trans HX.out.2.2.1) hs7 HX.out.2.2.2.1.rise
      rw [hAL] at hc7
      have HSM : Hid (∀ o ∈ L, o.key.size ≤ maxLen ∧ o.val.size ≤ maxLen) := Lib.hid fun o ho => by
        have := HX.out.2.2.2.1.small o ho
        unfold maxLen
        omega
      refine ⟨some ⟨g, 0, none⟩, s, c, rfl, ⟨by omega, by have := HX.out.2.2.2.2; unfold maxLen; omega, hc7, HSM.out⟩, (tb9 hg).trans' t7 fun q hq => .inr ?_⟩
      · have e : q = g := by simpa using hq
        rw [e]; exact hgb

end Go.Proofs.Ytkeahapgliljoaa
