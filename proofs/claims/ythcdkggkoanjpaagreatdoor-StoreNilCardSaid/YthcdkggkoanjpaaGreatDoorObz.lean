/- (The table of powers is global 1 here.) What a tied card's condition gives: the table of powers lies as the program's text lays it; and a world in which it does. Numbers and types by name. -/
import Derived.Test.YthcdkggkoanjpaaGreatDoorSte
import Derived.Test.YthcdkggkoanjpaaGreatDoorSxf
import Derived.Test.YthcdkggkoanjpaaGreatDoorSfu
import Derived.Test.YthcdkggkoanjpaaGreatDoorRows
import Derived.Test.YthcdkggkoanjpaaGreatDoorBri
import Derived.ProofKit
import Derived.LaidMore
import Derived.Stop.LaidErr
/- A store behind k commits: plain facts. Numbers and types by name. -/
namespace Go.Proofs.YthcdkggkoanjpaaGreatDoor
open Go.RowKit Go.Lib
structure PS (k : Nat) (M : MD) (n : Nat) (s : Bool) (L S : List Prm) (B : List (List Opm)) (O : List Opm) (t : List UInt8) : Prop where
  sk : SK M n s L S B O t
  well : Well 440000 M (9 * k + 10)
  ml : Meas k L
  ms : Meas k S
  b : B.length ≤ k
  n : n ≤ 26000 * k
def mild (X : List Opm) : Prop := bulkO X ≤ 5000 ∧ X.length ≤ 60
theorem recs_mild {X : List Opm} (hm : mild X) : (frms (recs X)).length ≤ 26000 := by
  have := recs_size hm.1
  have := hm.1
  have := hm.2
  omega
theorem PS.sfit {k : Nat} {M : MD} {n : Nat} {s : Bool} {L S : List Prm} {B : List (List Opm)} {O : List Opm} {t : List UInt8} (h : PS k M n s L S B O t) (hk : k ≤ 80) {X : List Opm} (hm : mild X) : SFit 440000 2000 (9 * k + 10) M n L X where
  well := h.well
  j := by omega
  room := room10
  x := hm.1
  xK := by have := recs_mild hm; omega
  n := by have := h.n; omega
  sl := h.ml.slim (by omega)
  sl2 := (h.ml.apply hm.1 hm.2).slim (by omega)
  sK := (h.ml.apply hm.1 hm.2).bytes (by omega)
theorem ps_commit {k : Nat} {M : MD} {n : Nat} {s : Bool} {L S : List Prm} {B : List (List Opm)} {O : List Opm} {t : List UInt8} (h : PS k M n s L S B O t) (hk : k ≤ 80) {X : List Opm} (hm : mild X) (most : Int) :
    ((commitS most M n s L X).e = 0 → ∃ S' B', PS (k + 1) (commitS most M n s L X).M (commitS most M n s L X).n (commitS most M n s L X).s (applyP L X) S' B' O [] ∧ (commitS most M n s L X).L = applyP L X) ∧
    ((commitS most M n s L X).e ≠ 0 → (commitS most M n s L X).L = L ∧ ((commitS most M n s L X).e ≠ 8 → okOps X = true → ∃ t', PS (k + 1) (commitS most M n s L X).M (commitS most M n s L X).n (commitS most M n s L X).s L S B X t') ∧
      ((commitS most M n s L X).e = 8 ∨ okOps X = false → PS (k + 1) (commitS most M n s L X).M (commitS most M n s L X).n (commitS most M n s L X).s L S B O t)) := by
  have hx := recs_mild hm
  have hL' := h.ml.apply hm.1 hm.2
  have hw := well_commitS h.well most n s L (X := X) (by omega) (hL'.bytes (by omega))
  have hn := commitS_n most M n s L X
  obtain ⟨c1, c2, c3⟩ := sk_commit h.sk hm.1
  have hnk := h.n
  have hw' : Well 440000 (commitS most M n s L X).M (9 * (k + 1) + 10) := well_more hw (by omega)
  have hn' : (commitS most M n s L X).n ≤ 26000 * (k + 1) := by omega
  obtain ⟨W, hW⟩ : ∃ W, W = commitP M n s X := ⟨_, rfl⟩
  rw [← hW] at c1 c2 c3
  by_cases he : W.e = 0
  · obtain ⟨k1, k2, k3⟩ := c1 he
    by_cases hmo : most < (W.n : Int)
    · have e := commitS_many (L := L) hW he hmo
      obtain ⟨S', B', d1, d2, _⟩ := sk_check k1 (hL'.slim (by omega))
      rw [e] at hw' hn' ⊢
      refine ⟨fun _ => ⟨S', B', ⟨d1, hw', hL', ?_, ?_, hn'⟩, checkS_L _ _ _ _⟩, fun h => absurd rfl h⟩
      · rcases d2 with ⟨rfl, _⟩ | ⟨rfl, _⟩
        · exact h.ms.more (by omega)
        · exact hL'
      · have hb := h.b
        rcases d2 with ⟨_, rfl⟩ | ⟨_, rfl | rfl⟩
        · rw [List.length_append, List.length_singleton]; omega
        · rw [List.length_append, List.length_singleton]; omega
        · exact Nat.zero_le _
    · have e := commitS_few (L := L) hW he hmo
      rw [e] at hw' hn' ⊢
      exact ⟨fun _ => ⟨S, B ++ [X], ⟨k1, hw', hL', h.ms.more (by omega), by have := h.b; rw [List.length_append, List.length_singleton]; omega, hn'⟩, rfl⟩, fun h => absurd rfl h⟩
  · have e := commitS_bad (most := most) (L := L) hW he
    rw [e] at hw' hn' ⊢
    refine ⟨fun h => absurd h he, fun _ => ⟨rfl, fun h8 hok => ?_, fun h8 => ?_⟩⟩
    · obtain ⟨t', k1⟩ := c2 he h8 hok
      exact ⟨t', k1, hw', h.ml.more (by omega), h.ms.more (by omega), by have := h.b; omega, hn'⟩
    · obtain ⟨_, e1, e2, e3⟩ := c3 h8
      refine ⟨?_, hw', h.ml.more (by omega), h.ms.more (by omega), by have := h.b; omega, hn'⟩
      show SK W.M W.n W.s L S B O t
      rw [e1, e2, e3]
      exact h.sk
structure PD (k : Nat) (M : MD) (S : List Prm) (B : List (List Opm)) (O : List Opm) (t : List UInt8) : Prop where
  dk : DK M S B O t
  well : Well 440000 M (9 * k + 10)
  ms : Meas k S
  b : B.length ≤ k
theorem PS.pd {k : Nat} {M : MD} {n : Nat} {s : Bool} {L S : List Prm} {B : List (List Opm)} {O : List Opm} {t : List UInt8} (h : PS k M n s L S B O t) : PD k M S B O t := ⟨h.sk.dk, h.well, h.ms, h.b⟩
theorem PD.ofit {k : Nat} {M : MD} {S : List Prm} {B : List (List Opm)} {O : List Opm} {t : List UInt8} (h : PD k M S B O t) (hk : k ≤ 80) (hS : bulkP S ≤ 230000) : OFit 440000 2000 (9 * k + 10) M := dk_ofit h.dk h.well (by omega) room10 (by have := h.b; omega) hS
theorem pd_new (cap cr : Int) (dn : Bool) (zs ks : List Int) (hc : cap ≤ 9223372036854775807) (hz : zs.length ≤ 200) (hk : ks.length ≤ 200) : PD 0 (MD.new cap cr dn zs ks) [] [] [] [] :=
  ⟨dk_new cap cr dn zs ks, well_more (well_new _ _ _ _ _ _ hc hz hk) (by omega), Meas.nil, Nat.le_refl _⟩
theorem pd_restart {k : Nat} {M : MD} {S : List Prm} {B : List (List Opm)} {O : List Opm} {t : List UInt8} (h : PD k M S B O t) (cap cr : Int) (dn : Bool) (zs ks : List Int) (hc : cap ≤ 9223372036854775807) (hz : zs.length ≤ 200) (hk : ks.length ≤ 200) :
    ∃ t', PD (k + 1) (M.restart cap cr dn zs ks) S B O t' ∧ (t = [] → t' = []) := by
  obtain ⟨t', h1, h2⟩ := dk_restart h.dk cap cr dn zs ks
  exact ⟨t', ⟨h1, well_more (well_restart h.well hc hz hk) (by omega), h.ms.more (by omega), by have := h.b; omega⟩, h2⟩
theorem pd_open {k : Nat} {M : MD} {S : List Prm} {B : List (List Opm)} {O : List Opm} {t : List UInt8} (h : PD k M S B O t) (hl : Meas k (applyAll S B)) (hl2 : t ≠ [] → Meas (k + 1) (applyAll S (B ++ [O]))) :
    ((openS M).e ≠ 0 → ∃ t', PD (k + 1) (openS M).M S B O t' ∧ (t = [] → t' = [])) ∧
    ((openS M).e = 0 → (openS M).M.dw = false ∧ ∃ m, (m = B ∨ (t ≠ [] ∧ m = B ++ [O])) ∧ PS (k + 1) (openS M).M (openS M).n false (openS M).L S m O []) := by
  obtain ⟨o1, o2⟩ := dk_open h.dk
  have hw : Well 440000 (openS M).M (9 * (k + 1) + 10) := well_more (well_openS h.well) (by omega)
  refine ⟨fun he => ?_, fun he => ?_⟩
  · obtain ⟨t', k1, k2⟩ := o1 he
    exact ⟨t', ⟨k1, hw, h.ms.more (by omega), by have := h.b; omega⟩, k2⟩
  · obtain ⟨g1, m, hm, k1⟩ := o2 he
    refine ⟨g1, m, hm, k1, hw, ?_, h.ms.more (by omega), ?_, ?_⟩
    · rw [k1.L]
      rcases hm with rfl | ⟨ht, rfl⟩
      · exact hl.more (by omega)
      · exact hl2 ht
    · rcases hm with rfl | ⟨ht, rfl⟩
      · have := h.b; omega
      · have := h.b; rw [List.length_append, List.length_singleton]; omega
    · rw [k1.n rfl]
      have h1 := EB_len k1.dk.sm
      have h2 := h.b
      rcases hm with rfl | ⟨ht, rfl⟩
      · omega
      · rw [List.length_append, List.length_singleton] at h1; omega
end Go.Proofs.YthcdkggkoanjpaaGreatDoor

/- The store's example, walked over what is asked of the code's store. Numbers and types by name. -/
namespace Go.Proofs.YthcdkggkoanjpaaGreatDoor
open Go.RowKit Go.Lib
set_option maxRecDepth 100000
def opA : Opm := ⟨false, ⟨#[97]⟩, ⟨#[49]⟩⟩
theorem opA_mild : mild [opA] := ⟨by decide, by decide⟩
theorem opA_ok : okOps [opA] = true := by decide
theorem opA_find : findP (applyP [] [opA]) ⟨#[97]⟩ = (⟨#[49]⟩, true) := by decide +kernel
theorem commitS_zero {most : Int} {M : MD} {n : Nat} {s : Bool} {L : List Prm} {X : List Opm} (h : (commitP M n s X).e = 0) : (commitS most M n s L X).e = 0 := by
  unfold commitS
  rw [if_neg (by simp [h])]
  split <;> rfl
theorem still_restart (M : MD) (cap : Int) : Still8 (M.restart cap 0 false [] []) := ⟨rfl, Int.le_refl _, rfl⟩
theorem tot_open0 (cap : Int) (hc : cap ≤ 9223372036854775807) : tot (openS (MD.new cap 0 false [] [])).M.fs = 0 := by
  have h0 : Well 0 (MD.new cap 0 false [] []) 0 := well_new 0 cap 0 false [] [] hc (by simp) (by simp)
  have h1 := (well_openS h0).held.tot
  omega
theorem awake_st (M0 M3 : MD) (R1 R4 : SOpen) (R2 : SWrote) (e0 : M0 = MD.new 1000 0 false [] []) (e1 : R1 = openS M0) (e2 : R2 = commitS (max 100 0) R1.M R1.n false R1.L [opA]) (e3 : M3 = R2.M.restart 1000 0 false [] []) (e4 : R4 = openS M3) :
    OFit 440000 2000 10 M0 ∧ R1.e = 0 ∧ SFit 440000 2000 19 R1.M R1.n R1.L [opA] ∧ R2.e = 0 ∧ Lim R2.M ∧ OFit 440000 2000 37 M3 ∧ R4.e = 0 ∧ Slim R4.L ∧ findP R4.L ⟨#[97]⟩ = (⟨#[49]⟩, true) := by
  have p0 := pd_new 1000 0 false [] [] (by decide) (by simp) (by simp)
  rw [← e0] at p0
  have s0 : Still8 M0 := by rw [e0]; exact still_new _
  obtain ⟨c1, c2, c3⟩ := calm_open p0.dk s0
  obtain ⟨_, g1⟩ := pd_open p0 Meas.nil (fun h => absurd rfl h)
  obtain ⟨_, m, hm, k1⟩ := g1 c1
  have hmn : m = [] := by
    rcases hm with h | ⟨h, _⟩
    · exact h
    · exact absurd rfl h
  subst hmn
  rw [← e1] at c1 c2 c3 k1
  have hL1 : R1.L = [] := k1.sk.L
  have ht0 : tot R1.M.fs = 0 := by rw [e1, e0]; exact tot_open0 1000 (by decide)
  obtain ⟨d1, d2, d3, d4, d5⟩ := calm_commit k1.sk c2 [opA]
  have hsz := recs_size (L := [opA]) (by decide)
  have hsz2 : bulkO [opA] = 3 := by decide
  have hcm : (commitP R1.M R1.n false [opA]).e = 0 := by
    rcases d5 opA_ok with h | h
    · exact h.1
    · have := h.2
      rw [c3, e0, ht0] at this
      rw [hsz2] at hsz
      simp only [List.length_singleton] at hsz
      have hcap : (MD.new 1000 0 false [] []).cap = 1000 := rfl
      rw [hcap] at this
      omega
  have hR2 : R2.e = 0 := by rw [e2]; exact commitS_zero hcm
  obtain ⟨q1, _⟩ := ps_commit k1 (by decide) opA_mild (max 100 0)
  rw [← e2] at q1
  obtain ⟨S', B', k2, hL2⟩ := q1 hR2
  obtain ⟨t', p3, ht'⟩ := pd_restart k2.pd 1000 0 false [] [] (by decide) (by simp) (by simp)
  obtain rfl := ht' rfl
  rw [← e3] at p3
  have s3 : Still8 M3 := by rw [e3]; exact still_restart _ _
  obtain ⟨f1, _, _⟩ := calm_open p3.dk s3
  have hml : Meas 3 (applyAll S' B') := by rw [← k2.sk.L]; exact k2.ml.more (by decide)
  obtain ⟨_, g4⟩ := pd_open p3 hml (fun h => absurd rfl h)
  obtain ⟨_, m4, hm4, k4⟩ := g4 f1
  have hmn4 : m4 = B' := by
    rcases hm4 with h | ⟨h, _⟩
    · exact h
    · exact absurd rfl h
  subst hmn4
  rw [← e4] at f1 k4
  have hL4 : R4.L = applyP [] [opA] := by rw [k4.sk.L, ← k2.sk.L, hL1]
  refine ⟨p0.ofit (by decide) (by decide), c1, k1.sfit (by decide) opA_mild, hR2, well_limW room10 k2.well (by decide), p3.ofit (by decide) ?_, f1, k4.ml.slim (by decide), by rw [hL4]; exact opA_find⟩
  have := p3.ms.bulk
  omega
set_option maxHeartbeats 4000000 in
theorem awake_store {C : SP} {I : SI} (K : StK C I) (w : World) (ht : Tab w) : Calls Tryz.prog 12 #[] w fun e w' => e = .returned (.bool true) ∧ Below w.heap.size w w' := by
  obtain ⟨M0, e0⟩ : ∃ M, M = MD.new 1000 0 false [] [] := ⟨_, rfl⟩
  obtain ⟨R1, e1⟩ : ∃ R, R = openS M0 := ⟨_, rfl⟩
  obtain ⟨R2, e2⟩ : ∃ R, R = commitS (max 100 0) R1.M R1.n false R1.L [opA] := ⟨_, rfl⟩
  obtain ⟨M3, e3⟩ : ∃ M, M = R2.M.restart 1000 0 false [] [] := ⟨_, rfl⟩
  obtain ⟨R4, e4⟩ : ∃ R, R = openS M3 := ⟨_, rfl⟩
  have HP := Lib.hid (awake_st M0 M3 R1 R4 R2 e0 e1 e2 e3 e4)
  have HE := Lib.hid (And.intro e1 (And.intro e2 (And.intro e3 e4)))
  have HK := Lib.hid K
  have HT := Lib.hid ht
  have N0 := new_cd 1000 0 false (.slice none 0 0) (.slice none 0 0) [] [] w (Reads.nil w) (Reads.nil w) (by simp) (by simp)
  rw [← e0] at N0
  clear e0 e1 e2 e3 e4 K ht
  go_enter Tryz.func12, Tryz.ntmps12
  go_wp2_with fail
  refine N0.mono ?_
  rintro e w1 ⟨b, F1, rfl, hc1, t1⟩
  have H1 := Lib.hid (show SesD w w1 w.heap.size b M0 F1 from ⟨hc1, tg9 t1, Nat.le_refl _⟩)
  have O1 := sess_open HK.out 100 H1.out HT.out HP.out.1 (by rw [← HE.out.1]; exact HP.out.2.1)
  rw [← HE.out.1] at O1
  unfold theDisk at O1 ⊢
  unfold theSt at O1
  clear hc1 t1 N0
  go_wp2_with fail
  refine O1.mono ?_
  rintro e w2 ⟨x, rfl, F2, hs2, _⟩
  have H2 := Lib.hid hs2
  have C2 := sess_commit_one HK.out H2.out HT.out HP.out.2.2.1 (o := opA) ⟨by decide, by decide⟩
  rw [← HE.out.2.1] at C2
  unfold theSt at C2
  clear hs2 O1
  go_wp2_with (first | (go_at_call 17; refine (num_at _ _).mono ?_; rintro e w' ⟨rfl, rfl⟩) | (go_at_call 23; refine C2.mono ?_; rintro e w3 ⟨k3, rfl, hk3, F3, hs3, _⟩; replace hk3 : k3 = 0 := hk3.trans HP.out.2.2.2.1; subst hk3; have H3 := Lib.hid hs3; clear hs3))
  have D3 := sess_restart HK.out H3.out HP.out.2.2.2.2.1 1000 0 false
  rw [← HE.out.2.2.1] at D3
  unfold theDisk at D3
  clear C2
  refine D3.mono ?_
  rintro e w4 ⟨rfl, _, _, _, F4, hs4, _⟩
  have O4 := sess_open HK.out 100 hs4 HT.out HP.out.2.2.2.2.2.1 (by rw [← HE.out.2.2.2]; exact HP.out.2.2.2.2.2.2.1)
  rw [← HE.out.2.2.2] at O4
  unfold theDisk theSt at O4
  clear hs4 D3
  go_wp2_with fail
  refine O4.mono ?_
  rintro e w5 ⟨y, rfl, F5, hs5, _⟩
  have G5 := HK.out.get hs5.1 HP.out.2.2.2.2.2.2.2.1 ⟨#[97]⟩ (by decide)
  rw [HP.out.2.2.2.2.2.2.2.2] at G5
  unfold theSt at G5
  have H5 := Lib.hid hs5.2.1
  clear hs5 O4
  go_wp2_with (first | (go_at_call 17; refine (num_at _ _).mono ?_; rintro e w' ⟨rfl, rfl⟩) | (go_at_call 31; refine G5.mono ?_; rintro e w6 ⟨rfl, t6⟩; have H6 := Lib.hid t6; clear t6))
  go_ret
  exact ⟨rfl, H5.out.trans (tg9 H6.out)⟩
end Go.Proofs.YthcdkggkoanjpaaGreatDoor

/- StoreNil, walked over what is asked of the code's store. Numbers and types by name. -/
namespace Go.Proofs.YthcdkggkoanjpaaGreatDoor
open Go.RowKit Go.Lib
set_option maxRecDepth 100000
structure StN : Prop where
  get : ∀ (k : ByteArray) (w : World), Calls Tryz.prog 31 #[.pointer none, .string k] w fun e w' => e = .returned (.tuple #[.string ⟨#[]⟩, .bool false]) ∧ Grow w w'
  opens : ∀ (most : Int) (w : World), Tab w → Calls Tryz.prog 15 #[.pointer none, .int .i64 most] w fun e w' => ∃ v, e = .returned (.tuple #[v, .int .i64 3]) ∧ Grow w w'
  all : ∀ (w : World), Calls Tryz.prog 26 #[.pointer none] w fun e w' => ∃ ao c, e = .returned (.slice ao 0 c) ∧ Grow w w'
  commit : ∀ (v : Value) (m : Nat) (X : List Opm) (w : World), Opr w v m X → Calls Tryz.prog 23 #[.pointer none, v] w fun e w' => e = .returned (.int .i64 3) ∧ Grow w w'
  check : ∀ (w : World), Calls Tryz.prog 20 #[.pointer none] w fun e w' => e = .returned (.int .i64 3) ∧ Grow w w'
  sick : ∀ (w : World), Calls Tryz.prog 22 #[.pointer none] w fun e w' => e = .returned (.bool false) ∧ Grow w w'
set_option maxHeartbeats 4000000 in
theorem nil_store {C : SP} {I : SI} (K : StK C I) (N : StN) (v1 : Value) (n1 : Nat) (l : List Opm) (w : World) (h1 : Opr w v1 n1 l) (ht : Tab w) :
    Calls Tryz.prog 8 #[v1] w fun e w' => e = .returned (.bool true) ∧ Below w.heap.size w w' := by
  obtain ⟨a1, c1, rfl⟩ := h1.shape
  have HK := Lib.hid K
  have HN := Lib.hid N
  have HT := Lib.hid ht
  have H1 := Lib.hid h1
  have G1 := N.get ⟨#[97]⟩ w
  clear K N ht h1
  go_enter Tryz.func8, Tryz.ntmps8
  go_wp2_with fail
  refine G1.mono ?_
  rintro e w1 ⟨rfl, h⟩
  have B1 := Lib.hid h
  have G2 := HN.out.opens 5 w1 (HT.out.later h)
  clear h G1
  go_wp2_with fail
  refine G2.mono ?_
  rintro e w2 ⟨v2, rfl, h⟩
  have B2 := Lib.hid (B1.out.trans h)
  have G3 := HN.out.all w2
  clear h G2
  go_wp2_with fail
  refine G3.mono ?_
  rintro e w3 ⟨a3, c3, rfl, h⟩
  have B3 := Lib.hid (B2.out.trans h)
  have G4 := HN.out.commit _ _ _ w3 (H1.out.later B3.out)
  clear h G3
  go_wp2_with fail
  refine G4.mono ?_
  rintro e w4 ⟨rfl, h⟩
  have B4 := Lib.hid (B3.out.trans h)
  have G5 := HN.out.check w4
  clear h G4
  go_wp2_with (first | (go_at_call 17; refine (num_at _ _).mono ?_; rintro e w' ⟨rfl, rfl⟩) | (go_at_call 20; refine G5.mono ?_; rintro e w5 ⟨rfl, h⟩; have B5 := Lib.hid (B4.out.trans h); have G6 := HN.out.sick w5; clear h G5) | (go_at_call 22; refine G6.mono ?_; rintro e w6 ⟨rfl, h⟩; have B6 := Lib.hid (B5.out.trans h); clear h G6) | (go_at_call 12; refine (awake_store HK.out _ (HT.out.later B6.out)).mono ?_; rintro e w' ⟨rfl, hb9⟩))
  go_ret
  exact ⟨rfl, B6.out.trans hb9⟩
end Go.Proofs.YthcdkggkoanjpaaGreatDoor

/- The code's store keeps what is asked of it; a store that there is not. Numbers and types by name. -/
namespace Go.Proofs.YthcdkggkoanjpaaGreatDoor
open Go.RowKit Go.Lib
set_option maxRecDepth 100000
theorem st_kept : StK CSt ISt where
  lt := CSt_lt
  keep := CSt_keep
  parts := CSt_parts
  ilt := ISt_lt
  ikeep := ISt_keep
  iall := fun h hs => (ISt_all h (by have := hs.1; omega)).mono fun _ _ ⟨ao, q, c, he, hp, _, t⟩ => ⟨ao, q, c, he, hp, t⟩
  iall2 := fun h hs => ISt_all h (by have := hs.1; omega)
  opens := by
    intro w base b M F most h ht K J j hf
    exact CSt_open most h ht hf
  commit := by
    intro w base b x M n s L most F h ht K J j X hf vo m ho hm
    exact CSt_commit h ht hf vo m ho hm
  check := by
    intro w base b x M n s L most F h hs K J j hw hj hR hK
    exact CSt_check h hs hw hj hR hK
  sick := CSt_sick
  get := fun h hs k hk => CSt_get h hs k hk
theorem nil_st_get (k : ByteArray) (w : World) : Calls Tryz.prog 31 #[.pointer none, .string k] w fun e w' => e = .returned (.tuple #[.string ⟨#[]⟩, .bool false]) ∧ Grow w w' := by
  go_enter Tryz.func31, Tryz.ntmps31
  go_wp2_with fail
  go_ret2
  exact ⟨rfl, Grow.refl _⟩
theorem nil_st_open (most : Int) (w : World) : Calls Tryz.prog 15 #[.pointer none, .int .i64 most] w fun e w' => ∃ v, e = .returned (.tuple #[v, .int .i64 3]) ∧ Grow w w' := by
  go_enter Tryz.func15, Tryz.ntmps15
  go_wp2_with fail
  refine (load_nil _).mono ?_
  rintro e w' ⟨rfl, rfl⟩
  go_wp2_with fail
  go_ret2
  exact ⟨_, rfl, Grow.refl _⟩
theorem nil_st_all (w : World) : Calls Tryz.prog 26 #[.pointer none] w fun e w' => ∃ ao c, e = .returned (.slice ao 0 c) ∧ Grow w w' := by
  go_enter Tryz.func26, Tryz.ntmps26
  go_wp2_with fail
  go_ret
  exact ⟨none, 0, rfl, Grow.refl _⟩
theorem nil_st_commit (v : Value) (m : Nat) (X : List Opm) (w : World) (h : Opr w v m X) : Calls Tryz.prog 23 #[.pointer none, v] w fun e w' => e = .returned (.int .i64 3) ∧ Grow w w' := by
  obtain ⟨ao, c, rfl⟩ := h.shape
  clear h
  go_enter Tryz.func23, Tryz.ntmps23
  go_wp2_with fail
  go_ret
  exact ⟨rfl, Grow.refl _⟩
theorem nil_st_check (w : World) : Calls Tryz.prog 20 #[.pointer none] w fun e w' => e = .returned (.int .i64 3) ∧ Grow w w' := by
  go_enter Tryz.func20, Tryz.ntmps20
  go_wp2_with fail
  go_step3
  go_wp2_with fail
  try rw [Exit.noGoto_ret]
  go_ret
  exact ⟨rfl, Grow.refl _⟩
theorem nil_st_sick (w : World) : Calls Tryz.prog 22 #[.pointer none] w fun e w' => e = .returned (.bool false) ∧ Grow w w' := by
  go_enter Tryz.func22, Tryz.ntmps22
  go_wp2_with fail
  go_ret
  exact ⟨rfl, Grow.refl _⟩
theorem st_none : StN := ⟨nil_st_get, fun most w _ => nil_st_open most w, nil_st_all, nil_st_commit, nil_st_check, nil_st_sick⟩
end Go.Proofs.YthcdkggkoanjpaaGreatDoor

namespace Go.Proofs.YthcdkggkoanjpaaGreatDoor
open Go.ChangeShapes Go.WideShapes Go.ChangeAt Go.RowKit
def laid3 : List (String × DataW Unit) := [("math/bits.deBruijn32tab", Rows.laid_math_bits_deBruijn32tab), ("math/bits.deBruijn64tab", Rows.laid_math_bits_deBruijn64tab), ("internal/strconv.uint64pow10", Rows.laid_internal_strconv_uint64pow10)]
theorem tab_of_laid {W : World} (h : laidMetH Tryz.prog laid3 W) : Tab W := by
  rw [MakeChecks.laidMetH_plain _ _ _ (by kernel_rfl)] at h
  have h3 : laidMet Tryz.prog [("internal/strconv.uint64pow10", Lib.tabData .u64 Lib.pow10Tab)] W := h.tail.tail
  exact Lib.tabIs_of_head (show Tryz.prog.globalNamed "internal/strconv.uint64pow10" = some 1 by kernel_rfl) (show (Tryz.prog.globals[1]?).map (·.type) = some 248 by kernel_rfl) Tryz.underlying248 Tryz.underlying198 (by kernel_rfl) (by kernel_rfl) h3
theorem door_met (os : Os) (args : Array Value) : laidMetH Tryz.prog laid3 ((World.doorLaid Tryz.prog 24 os).forCall (fun _ _ => 0) ⟨#[], args, []⟩).memory :=
  laidMetH_of_parts3 (fuel := 8) (laidMet_of_run' 8 (by kernel_rfl) (by kernel_rfl)) (by kernel_rfl) (by kernel_rfl)
end Go.Proofs.YthcdkggkoanjpaaGreatDoor
