/- The batches' example. Numbers and types by name. -/
import Derived.Test.YtgpacbmiliefiaaDoorBtc
import Derived.Test.YtgpacbmiliefiaaDoorScn
import Derived.Test.YtgpacbmiliefiaaDoorNmc
namespace Go.Proofs.YtgpacbmiliefiaaDoor
open Go.RowKit Go.Lib

/-- What is told of records that are whole. -/
theorem scans_all {ps l : List (List UInt8)} {n : Nat} (hp : ∀ p ∈ ps, p.length ≤ 1048576) (h : Scans (frms ps) l n) : l = ps ∧ n = (frms ps).length := by
  have h1 := scans_frms scans_nil ps hp
  rw [List.append_nil, List.append_nil] at h1
  obtain ⟨rfl, rfl⟩ := scans_det h h1
  exact ⟨rfl, rfl⟩

theorem bulk_scans' {b : List UInt8} {l : List (List UInt8)} {n : Nat} (h : Scans b l n) : 8 * l.length ≤ n := by
  induction h with
  | stop _ => simp
  | more _ _ ih => rw [List.length_cons]; omega

theorem recs_short {L : List Opm} (hb : bulkO L ≤ 5000) : ∀ p ∈ recs L, p.length ≤ 6000 := by
  intro p hp
  have hn := bulkO_length L
  rcases List.mem_append.1 hp with hp | hp
  · obtain ⟨o, ho, rfl⟩ := List.mem_map.1 hp
    have := pay_length o
    have := bulkO_mem ho
    omega
  · rw [List.mem_singleton.1 hp]
    have := fin_length (n := L.length) (by omega)
    omega
theorem recs_frms {L : List Opm} (hb : bulkO L ≤ 5000) : (frms (recs L)).length ≤ 110000 := by
  have h1 := pays_bulk L
  have hn := bulkO_length L
  have h2 := fin_length (n := L.length) (by omega)
  unfold recs
  rw [frms_snoc, List.length_append, frm_length]
  omega
theorem recs_pos (L : List Opm) : 8 ≤ (frms (recs L)).length := by
  unfold recs
  rw [frms_snoc, List.length_append, frm_length]
  omega

theorem awake_batch (w : World) (ht : Tab w) : Calls Tryd.prog 8 #[] w fun e w' => e = .returned (.bool true) ∧ Below w.heap.size w w' := by
  go_enter Tryd.func8, Tryd.ntmps8
  go_wp2_with fail
  refine (batch_any _ 0 [] w (Opr.nil w) ht rfl (by decide)).mono ?_
  rintro e w1 ⟨ao1, m, c1, rfl, h1, hb1⟩
  have HB := Lib.hid (And.intro h1 hb1)
  have hm := h1.1
  have hm8 : 8 ≤ m := by rw [hm]; exact recs_pos []
  have HM := Lib.hid hm
  have hm9 : m ≤ 110000 := by rw [hm]; exact recs_frms (L := []) (by decide)
  clear h1 hb1 hm
  go_wp2_with fail
  refine (scan_any _ m _ w1 HB.out.1.reads HM.out (Lib.hid (by omega))).mono ?_
  rintro e w2 ⟨hb2, l, n, ao, c, hs, _, rfl, ho⟩
  obtain ⟨rfl, hn⟩ := scans_all (fun p hp => by have := recs_short (L := []) (by decide) p hp; omega) hs
  have hnm : (n : Int) = (m : Int) := by rw [hn, HM.out]
  have hl1 : (recs []).length = 1 := rfl
  rw [hnm, hl1]
  have hm0 : (0 : Int) < (m : Int) := by omega
  have hm1 : 0 < m := by omega
  have B2 := Lib.hid (HB.out.2.trans (hb2.mono HB.out.2.size))
  clear hs ho hn hnm hl1 hb2
  go_wp2_with (go_at_call 15; refine (num_code _ _).mono ?_; rintro e w' ⟨rfl, rfl⟩)
  go_ret
  exact ⟨rfl, B2.out⟩

end Go.Proofs.YtgpacbmiliefiaaDoor
