/- FrameCuts, walked. Numbers and types by name. -/
import Derived.Test.YtooadeoebdbngaaFjo
namespace Go.Proofs.Ytooadeoebdbngaa
open Go.RowKit Go.Lib

/-- Where the records end. -/
def endAt (ps : List (List UInt8)) (j : Nat) : Nat := (frms (ps.take j)).length
def ends (ps : List (List UInt8)) (n : Nat) : List Int := (List.range n).map fun i => (endAt ps (i + 1) : Int)

theorem ends_succ (ps : List (List UInt8)) (n : Nat) : ends ps (n + 1) = ends ps n ++ [(endAt ps (n + 1) : Int)] := by simp [ends, List.range_succ]
theorem ends_length (ps : List (List UInt8)) (n : Nat) : (ends ps n).length = n := by simp [ends]
theorem ends_at (ps : List (List UInt8)) (n j : Nat) (h : j < n) : (ends ps n)[j]? = some (endAt ps (j + 1) : Int) := by simp [ends, h]

theorem endAt_succ {ps : List (List UInt8)} {j : Nat} {p : List UInt8} (h : ps[j]? = some p) : frms (ps.take (j + 1)) = frms (ps.take j) ++ frm p := by rw [take_more h, frms_snoc]

/-- What is told of a cut. -/
theorem scans_at {ps : List (List UInt8)} {j k : Nat} (hp : ∀ p ∈ ps, p.length ≤ 1048576) (h1 : endAt ps j ≤ k) (hj : j ≤ ps.length) (h2 : j = ps.length ∧ k ≤ (frms ps).length ∨ k < endAt ps (j + 1)) {l : List (List UInt8)} {n : Nat} (h : Scans ((frms ps).take k) l n) :
    l = ps.take j ∧ n = endAt ps j := by
  have hq : ∀ x ∈ ps.take j, x.length ≤ 1048576 := fun x hx => hp x (List.mem_of_mem_take hx)
  rcases Nat.lt_or_ge j ps.length with hlt | hge
  · have hx : ps[j]? = some (ps[j]'hlt) := List.getElem?_eq_getElem hlt
    generalize ps[j]'hlt = p at hx
    have hk : k < endAt ps (j + 1) := by
      rcases h2 with ⟨h2, _⟩ | h2
      · omega
      · exact h2
    unfold endAt at h1 hk
    rw [endAt_succ hx, List.length_append] at hk
    have e : frms ps = frms (ps.take j) ++ (frm p ++ frms (ps.drop (j + 1))) := by
      have e1 : ps = ps.take j ++ ([p] ++ ps.drop (j + 1)) := by
        have := List.take_append_drop (j + 1) ps
        rw [take_more hx, List.append_assoc] at this
        exact this.symm
      conv => lhs; rw [e1]
      simp [frms]
    have e2 : (frms ps).take k = frms (ps.take j) ++ (frm p).take (k - (frms (ps.take j)).length) := by
      rw [e, List.take_append, List.take_of_length_le h1, List.take_append_of_le_length (by omega)]
    rw [e2] at h
    exact scans_det h (scans_cut _ p _ hq (.inr ⟨_, by omega, hp p (List.mem_of_getElem? hx), rfl⟩))
  · have hk : k ≤ (frms ps).length := by
      rcases h2 with ⟨_, h2⟩ | h2
      · exact h2
      · unfold endAt at h2
        rw [List.take_of_length_le (by omega)] at h2
        omega
    have ht : ps.take j = ps := List.take_of_length_le hge
    unfold endAt at h1 ⊢
    rw [ht] at h1 ⊢
    have e2 : (frms ps).take k = frms ps ++ [] := by rw [List.append_nil, List.take_of_length_le h1]
    rw [e2] at h
    exact scans_det h (scans_cut _ [] _ hp (.inl rfl))

theorem Rws.prefix {w : World} {ao : Option Addr} {n c : Nat} {ps : List (List UInt8)} (h : Rws w (.slice ao n c) n ps) (j : Nat) (hj : j ≤ n) : Rws w (.slice ao j c) j (ps.take j) ∧ n ≤ c := by
  obtain ⟨h1, h2, vs, ⟨ao', c', e, h0, hn, hc⟩, hl, hp⟩ := h
  simp only [Value.slice.injEq] at e
  obtain ⟨rfl, _, rfl⟩ := e
  refine ⟨⟨by rw [List.length_take]; omega, by omega, vs.take j, ⟨ao, c, by rw [List.length_take]; congr 1; omega, by rw [List.length_take]; omega, fun e => ⟨by rw [(hn e).1]; simp, (hn e).2⟩, fun a ha i u hi => ?_⟩, by rw [List.length_take]; omega, fun i p hi => ?_⟩, by omega⟩
  · refine hc a ha i u ?_
    rw [List.getElem?_take] at hi
    split at hi
    · exact hi
    · cases hi
  · rw [List.getElem?_take] at hi
    split at hi
    · next hij =>
      obtain ⟨ao, c2, f1, f2, f3⟩ := hp i p hi
      exact ⟨ao, c2, by rw [List.getElem?_take, if_pos hij]; exact f1, f2, f3⟩
    · cases hi

set_option maxHeartbeats 1000000 in
theorem cuts_frame (v1 : Value) (n q : Nat) (ps : List (List UInt8)) (w : World) (h1 : Rws w v1 n ps) (hq : q < 65536) :
    Calls Try.prog 4 #[v1, .int .u16 (q : Int)] w fun e w' => e = .returned (.bool true) ∧ Below w.heap.size w w' := by
  obtain ⟨a1, c1, rfl⟩ := h1.shape
  have H1 := Lib.hid h1
  clear h1
  go_enter Try.func4, Try.ntmps4
  go_wp2_with fail
  refine (great_rows _ n ps w H1.out).mono ?_
  rintro e w1 ⟨g, rfl, rfl, hb⟩
  cases g with
  | true =>
    clear hb
    go_wp2_with (go_at_call 7; refine (awake_frame _).mono ?_; rintro e w' ⟨rfl, hb9⟩)
    go_ret
    exact ⟨rfl, hb9⟩
  | false =>
    have HB := Lib.hid (hb rfl)
    have HP : Hid (∀ p ∈ ps, p.length ≤ 5000) := Lib.hid fun p hp => by have := bulkR_mem hp; have := hb rfl; omega
    have hn5 : n ≤ 5000 := by have := bulkR_length ps; have := hb rfl; have := H1.out.1; omega
    clear hb
    go_wp2_with fail
    go_loopw [5, 6, 7] (fun xv ev i wr => ∃ (k r c c2 : Nat) (ao ao2 : Option Addr), k ≤ n ∧ i = .int .i64 k ∧ xv = .slice ao r c ∧ ev = .slice ao2 k c2 ∧ Hid (Bs wr w.heap.size (.slice ao r c) r (frms (ps.take k)) ∧ wr.ownsRow w.heap.size 3 1 (.slice ao2 k c2) k (iv (ends ps k)) ∧ Below w.heap.size w wr))
      (fun _ _ i _ => n - (intOf i).toNat)
    case atStart => exact ⟨0, 0, 0, 0, none, none, Nat.zero_le _, rfl, rfl, rfl, Lib.hid ⟨⟨rfl, World.ownsRow_nil _ _ _ _⟩, World.ownsRow_nil _ _ _ _, Below.refl _ _⟩⟩
    case round =>
      obtain ⟨k, r, c, c2, ao, ao2, hk, rfl, rfl, rfl, hrel⟩ := hrel
      by_cases hlt : k < n
      · have k0 : (k : Int) < (n : Int) := by omega
        obtain ⟨A1, p, ap, cp, rfl, hp, hc, hrd, hpl⟩ := (H1.out.later hrel.out.2.2).at hlt
        have hp5 : p.length ≤ 5000 := HP.out p (List.mem_of_getElem? hp)
        have F := frame_any _ p.length p wr hrd rfl (by omega)
        have hbd := frms_bulk (ps.take (k + 1))
        have hbt := bulk_take (l := ps) (k + 1)
        have hbb := HB.out
        rw [take_more hp, frms_snoc, List.length_append, frm_length, ← take_more hp] at hbd
        have hr := hrel.out.1.1
        obtain ⟨s, hs⟩ : ∃ s, s = r + (p.length + 8) := ⟨_, rfl⟩
        have F1 : Hid (s ≤ maxLen) := Lib.hid (by unfold maxLen; omega)
        have F2 : Hid (s * 1 ≤ 140737488355328) := Lib.hid (by omega)
        have F3 : Hid (k + 1 ≤ 1000000000) := Lib.hid (by omega)
        have hse : s = endAt ps (k + 1) := by unfold endAt; rw [endAt_succ hp, List.length_append, frm_length]; omega
        have HS := Lib.hid (And.intro hs (And.intro hp (And.intro hse hrel.out)))
        clear hp hp5 hbd hbt hbb hr hrd hpl hrel hs hse
        generalize p.length = pl at *
        go_wp2_with fail
        refine F.mono ?_
        rintro e w2 ⟨ax, cx, rfl, hx, hb2⟩
        have HX := Lib.hid (And.intro hx hb2)
        clear hx hb2 F hc
        have hsz : w.heap.size ≤ w2.heap.size := Nat.le_trans HS.out.2.2.2.2.2.size HX.out.2.size
        have hE2 := Lib.hid (owns_below HS.out.2.2.2.2.1 HX.out.2 (Nat.le_refl _))
        have hX2 := Lib.hid (HS.out.2.2.2.1.below HX.out.2 (Nat.le_refl _))
        go_wp2_with (first | (go_at_call 12; refine (num_code _ _).mono ?_; rintro e w' ⟨rfl, rfl⟩) | (at_builtin; refine wpList_append_bytes_at rfl (.tmp 35) (.tmp 36) rfl w.heap.size _ r _ rfl hX2.out (.slice ax (pl + 8) cx) (pl + 8) (frm p) HX.out.1.1 rfl HX.out.1.reads s HS.out.1 F1 F2 hsz ?_; intro ao5 c5 w5 hown5 hb5 hg5) | (at_builtin; refine wpList_append_int rfl (.tmp 38) (.tmp 41) rfl w.heap.size _ k _ rfl ((owns_grown hE2.out hg5 (fun g h1 h2 => owns_apart hE2.out hX2.out.2 (by decide) g h1 h2)).alloc _) ⟨w5.heap.size, 0, none⟩ (s : Int) rfl (by rw [World.cell?_alloc_mark]; rfl) (k + 1) rfl F3 (Nat.le_trans hsz (Nat.le_trans hb5.size (by simp))) ?_; intro ao6 c6 w6 hown6 hb6 hg6))
        have hB6 : Below w.heap.size w w6 := ((HS.out.2.2.2.2.2.trans (HX.out.2.mono HS.out.2.2.2.2.2.size)).trans hb5).trans (((Below.refl _ w5).alloc (Nat.le_trans hsz hb5.size) _).trans hb6)
        have hX6 : Bs w6 w.heap.size (.slice ao5 s c5) s _ := ⟨hown5.1, owns_grown (hown5.alloc _).2 hg6 (fun g h1 h2 => owns_apart hown5.2 (owns_grown hE2.out hg5 (fun g h1 h2 => owns_apart hE2.out hX2.out.2 (by decide) g h1 h2)) (by decide) g h1 h2)⟩
        refine ⟨⟨k + 1, s, c5, c6, ao5, ao6, by omega, by simp, rfl, rfl, Lib.hid ⟨?_, ?_, hB6⟩⟩, by simp [intOf]; omega⟩
        · rw [take_more HS.out.2.1, frms_snoc]
          exact hX6
        · rw [ends_succ, ← HS.out.2.2.1]
          exact hown6
      · obtain rfl : k = n := by omega
        have k0 : ¬ (k : Int) < (k : Int) := by omega
        have hk2 : ps.take k = ps := List.take_of_length_le (by have := H1.out.1; omega)
        have hr := hrel.out.1.1
        have hbd := frms_bulk ps
        have hbb := HB.out
        have hrel' := hrel.out
        rw [hk2] at hr hrel'
        obtain ⟨z, hz, hmod⟩ : ∃ z, z ≤ r ∧ (q : Int) % ((r : Int) + 1) = (z : Int) := ⟨q % (r + 1), by have := Nat.mod_lt q (show 0 < r + 1 by omega); omega, by rw [show (r : Int) + 1 = ((r + 1 : Nat) : Int) by omega]; rfl⟩
        have r1 : ((r : Int) + 1 == 0) = false := by simp; omega
        have r5 : r ≤ 50000 := by omega
        have rc : r ≤ c := by
          obtain ⟨_, _, e, h0, _⟩ := hrel'.1.reads
          simp only [Value.slice.injEq, bv_length] at e h0
          omega
        have zc : (z : Int) ≤ (c : Int) := by omega
        have zc2 : z ≤ c := by omega
        have HR := Lib.hid hrel'
        have HRL := Lib.hid hr
        clear hk2 hr hbd hbb hrel hrel'
        have RP := Lib.hid (HR.out.1.reads.prefix z (by omega))
        go_wp2_with fail
        refine (scan_any _ z _ wr RP.out (by rw [List.length_take, ← HRL.out]; omega) (Lib.hid (by omega))).mono ?_
        rintro e w6 ⟨hb6, l, n9, al, cl, hs, hn9, rfl, ho⟩
        have HL := Lib.hid (And.intro ho (And.intro hs hb6))
        have HE := Lib.hid ((Reads.own (by rw [iv_length, ends_length]; exact HR.out.2.1)).later hb6 : Reads w6 (.slice ao2 (iv (ends ps k)).length c2) (iv (ends ps k)))
        have h90 : endAt ps 0 = 0 := by simp [endAt, frms]
        have HZ := Lib.hid (And.intro hz h90)
        clear hb6 hs hn9 ho hmod r1 rc zc zc2 hz h90
        go_wp2_with fail
        go_loopw [13, 14] (fun nv lv wr => ∃ j : Nat, j ≤ k ∧ nv = .int .i64 j ∧ lv = .int .i64 (endAt ps j) ∧ Hid (endAt ps j ≤ z) ∧ w6 = wr)
          (fun nv _ _ => k - (intOf nv).toNat)
        case atStart => exact ⟨0, Nat.zero_le _, rfl, by rw [HZ.out.2]; rfl, Lib.hid (by rw [HZ.out.2]; omega), rfl⟩
        case round =>
          obtain ⟨j, hj, rfl, rfl, hjz, rfl⟩ := hrel
          have hjk : j < k → ∃ a, ao2 = some a ∧ w6.cell? (a.add j) = some (.int .i64 (endAt ps (j + 1))) := by
            intro hlt
            obtain ⟨ao', c', e, h0, h1, h2⟩ := HE.out
            simp only [Value.slice.injEq] at e
            obtain ⟨rfl, _, rfl⟩ := e
            have h3 : (iv (ends ps k))[j]? = some (.int .i64 (endAt ps (j + 1))) := by simp [iv, ends_at ps k j hlt]
            cases ao2 with
            | none => rw [(h1 rfl).1] at h3; cases h3
            | some a => exact ⟨a, rfl, h2 a rfl j _ h3⟩
          by_cases hgo : j < k ∧ endAt ps (j + 1) ≤ z
          · obtain ⟨a, rfl, hc⟩ := hjk hgo.1
            have j0 : (j : Int) < (k : Int) := by omega
            have j1 : (endAt ps (j + 1) : Int) ≤ (z : Int) := by omega
            have HN := Lib.hid hgo.2
            clear hjk hgo
            go_wp2_with fail
            exact ⟨⟨j + 1, by omega, by simp, rfl, HN, trivial⟩, by simp [intOf]; omega⟩
          · obtain ⟨HL1, HL2⟩ : Hid (l = ps.take j ∧ n9 = endAt ps j) ∧ Hid (j ≤ k) := by
              have hx : l = ps.take j ∧ n9 = endAt ps j := by
                have h1 := H1.out.1
                have h2 := HRL.out
                have h3 := HZ.out.1
                refine scans_at (k := z) (fun p hp => by have := HP.out p hp; omega) hjz.out (by omega) ?_ HL.out.2.1
                by_cases h : j < k
                · right
                  have : ¬ endAt ps (j + 1) ≤ z := fun h' => hgo ⟨h, h'⟩
                  omega
                · left; omega
              exact ⟨Lib.hid hx, Lib.hid hj⟩
            obtain ⟨hl, hn9⟩ := HL1.out
            subst hn9
            have hlen : l.length = j := by rw [hl, List.length_take]; have := H1.out.1; omega
            have B6 : Hid (Below w.heap.size w w6) := Lib.hid (HR.out.2.2.trans (HL.out.2.2.mono HR.out.2.2.size))
            obtain ⟨RJ, hkc⟩ := (H1.out.later B6.out).prefix j hj
            rw [← hl] at RJ
            have S := same_true _ _ _ _ _ w6 (HL.out.1.rows (by rw [hlen]; unfold maxLen; omega)) RJ
            rw [hlen] at S ⊢
            have x1 : (j : Int) ≤ (c1 : Int) := by omega
            have x2 : j ≤ c1 := by omega
            clear RJ hkc hlen hl HL1 HL HE
            generalize hend : endAt ps j = ej at *
            clear hend
            by_cases hlt : j < k
            · obtain ⟨a, rfl, hc⟩ := hjk hlt
              have j0 : (j : Int) < (k : Int) := by omega
              have j1 : ¬ (endAt ps (j + 1) : Int) ≤ (z : Int) := by omega
              clear hjk hgo
              go_wp2_with (first | (go_at_call 13; refine S.mono ?_; rintro e w' ⟨rfl, jj, rfl⟩; clear S) | (go_at_call 7; refine (awake_frame _).mono ?_; rintro e w' ⟨rfl, hb9⟩))
              go_ret
              exact ⟨rfl, (below_drewN B6.out jj).trans (hb9.mono B6.out.size)⟩
            · obtain rfl : j = k := by omega
              have j0 : ¬ (j : Int) < (j : Int) := by omega
              clear hjk hgo
              go_wp2_with (first | (go_at_call 13; refine S.mono ?_; rintro e w' ⟨rfl, jj, rfl⟩; clear S) | (go_at_call 7; refine (awake_frame _).mono ?_; rintro e w' ⟨rfl, hb9⟩))
              go_ret
              exact ⟨rfl, (below_drewN B6.out jj).trans (hb9.mono B6.out.size)⟩

theorem cuts_nat (v1 : Value) (n : Nat) (z : Int) (ps : List (List UInt8)) (w : World) (h1 : Rws w v1 n ps) (hz : 0 ≤ z ∧ z ≤ 65535) :
    Calls Try.prog 4 #[v1, .int .u16 z] w fun e w' => e = .returned (.bool true) ∧ Below w.heap.size w w' := by
  obtain ⟨q, rfl⟩ : ∃ q : Nat, z = (q : Int) := ⟨z.toNat, (Int.toNat_of_nonneg hz.1).symm⟩
  exact cuts_frame v1 n q ps w h1 (by omega)

end Go.Proofs.Ytooadeoebdbngaa
