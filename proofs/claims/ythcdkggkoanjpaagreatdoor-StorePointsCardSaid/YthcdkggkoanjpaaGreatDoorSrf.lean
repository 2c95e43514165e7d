/- A store on a wide calm disk that makes no checkpoint of its own. Numbers and types by name. -/
import Derived.Test.YthcdkggkoanjpaaGreatDoorSra
namespace Go.Proofs.YthcdkggkoanjpaaGreatDoor
open Go.RowKit Go.Lib
set_option maxRecDepth 100000
theorem check_snap {M : MD} {n : Nat} {L S : List Prm} {B : List (List Opm)} {O : List Opm} {t : List UInt8} (h : SK M n false L S B O t) (he : (checkS M n false L).e = 0) : Sure (checkS M n false L).M.fs snapK (bytesT L) := by
  unfold checkS at he ⊢
  rw [if_neg (by simp), save_right h.rise] at he ⊢
  obtain ⟨_, g2, g3⟩ := save_keeps (x := bytesT L) h.dk.up
  by_cases h0 : (saveP M (bytesT L)).1 = 0
  · rw [if_neg (by simp [h0])]
    unfold resetP
    rw [if_neg (by simp)]
    exact (act_spares (spares_logC ((0 : Nat) : Int)) g3).trans (g2 h0)
  · rw [if_pos h0] at he
    exact absurd he h0
theorem few_step {k : Nat} {M : MD} {n : Nat} {L S : List Prm} {B : List (List Opm)} {O : List Opm} (h : PS k M n false L S B O []) (hs : Still8 M) (hk : k ≤ 80) {X : List Opm} (hm : mild X) {most : Int} (hmost : 1073741824 ≤ most) :
    (∃ B' O', PS (k + 1) (commitS most M n false L X).M (commitS most M n false L X).n false (commitS most M n false L X).L S B' O' []) ∧ (commitS most M n false L X).s = false ∧ Still8 (commitS most M n false L X).M ∧ (commitS most M n false L X).M.cap = M.cap ∧
    ((commitS most M n false L X).e = 0 → (commitS most M n false L X).L = applyP L X) ∧ ((commitS most M n false L X).e ≠ 0 → (commitS most M n false L X).L = L) := by
  obtain ⟨g1, g2, g3, g4, g5⟩ := calm_commitS h hs hk hm most
  obtain ⟨p1, p2⟩ := ps_commit h hk hm most
  have hp1 := fun he => (p1 he)
  refine ⟨?_, g1, g2, g3, fun he => (by obtain ⟨_, _, _, q⟩ := p1 he; exact q), fun he => (p2 he).1⟩
  have hx := recs_mild hm
  have hL' := h.ml.apply hm.1 hm.2
  have hw := well_commitS h.well most n false L (X := X) (by omega) (hL'.bytes (by omega))
  have hw' : Well 440000 (commitS most M n false L X).M (9 * (k + 1) + 10) := well_more hw (by omega)
  by_cases he : (commitS most M n false L X).e = 0
  · obtain ⟨c1, _, _⟩ := sk_commit h.sk hm.1
    have hn := commit_n M n false X
    have hnk := h.n
    obtain ⟨W, hW⟩ : ∃ W, W = commitP M n false X := ⟨_, rfl⟩
    rw [← hW] at c1 hn
    by_cases h0 : W.e = 0
    · obtain ⟨k1, k2, _⟩ := c1 h0
      have e := commitS_few (most := most) (L := L) hW h0 (by omega)
      rw [e] at hw' ⊢
      rw [k2] at k1
      exact ⟨B ++ [X], O, k1, hw', hL', h.ms.more (by omega), by have := h.b; rw [List.length_append, List.length_singleton]; omega, by show W.n ≤ _; omega⟩
    · rw [commitS_bad (most := most) (L := L) hW h0] at he
      exact absurd he h0
  · obtain ⟨q1, q2, q3⟩ := p2 he
    rw [q1]
    cases hok : okOps X with
    | false =>
      have k1 := q3 (.inr hok)
      rw [g1] at k1
      exact ⟨B, O, k1⟩
    | true =>
      have h8 : (commitS most M n false L X).e ≠ 8 := by
        rcases g5 hok with h | h
        · exact absurd h.1 he
        · rw [h.1]; decide
      obtain ⟨t', k1⟩ := q2 h8 hok
      rw [g1] at k1
      have := k1.sk.fine rfl
      subst this
      exact ⟨B, X, k1⟩
theorem ps_new (cap : Int) (hc : cap ≤ 9223372036854775807) : (openS (MD.new cap 0 false [] [])).e = 0 ∧ Still8 (openS (MD.new cap 0 false [] [])).M ∧ (openS (MD.new cap 0 false [] [])).M.cap = cap ∧ (openS (MD.new cap 0 false [] [])).L = [] ∧
    PS 0 (openS (MD.new cap 0 false [] [])).M (openS (MD.new cap 0 false [] [])).n false [] [] [] [] [] ∧ OFit 440000 2000 10 (MD.new cap 0 false [] []) := by
  have p0 : PD 0 (MD.new cap 0 false [] []) [] [] [] [] := pd_new _ _ _ _ _ hc (by simp) (by simp)
  obtain ⟨c1, c2, c3, c4, c5⟩ := calm_new p0 Meas.nil (still_new cap)
  have hL : (openS (MD.new cap 0 false [] [])).L = [] := c4
  rw [hL] at c5
  have hw : Well 440000 (openS (MD.new cap 0 false [] [])).M (9 * 0 + 10) := well_more (well_openS (well_new 440000 cap 0 false [] [] hc (by simp) (by simp))) (by omega)
  refine ⟨c1, c2, c3, hL, ⟨c5.sk, hw, Meas.nil, Meas.nil, Nat.le_refl _, ?_⟩, p0.ofit (by decide) (by decide)⟩
  rw [c5.sk.n rfl]
  exact Nat.le_refl _
theorem few_check {k : Nat} {M : MD} {n : Nat} {L S : List Prm} {B : List (List Opm)} {O : List Opm} (h : PS k M n false L S B O []) (hs : Still8 M) (hk : k ≤ 80) (hc : M.cap = 1073741824) :
    (checkS M n false L).e = 0 ∧ (checkS M n false L).s = false ∧ Still8 (checkS M n false L).M ∧ (checkS M n false L).M.cap = 1073741824 ∧ (checkS M n false L).L = L ∧ PS (k + 1) (checkS M n false L).M (checkS M n false L).n false L L [] O [] ∧
    (checkS M n false L).M.read logK = ([], 0) ∧ ((checkS M n false L).M.read snapK).2 = 0 ∧ ∃ sy, logIs (checkS M n false L).M.fs [] sy := by
  have hL := h.ml.bytes (k := k) (by omega)
  have htot := h.well.held.tot
  obtain ⟨f1, f2, f3, f4⟩ := calm_check h.sk hs
  have he := f4 (by rw [hc]; omega)
  obtain ⟨S', B', k1, _, k3⟩ := sk_check h.sk (h.ml.slim (by omega))
  obtain ⟨rfl, rfl, _⟩ := k3 he
  rw [f1] at k1
  have hn := check_n M n false S'
  have hsn := check_snap h.sk he
  obtain ⟨sy, i1, _, _⟩ := k1.is
  refine ⟨he, f1, f2, f3.trans hc, checkS_L _ _ _ _, ⟨k1, well_more (well_checkS h.well n false hL) (by omega), h.ml.more (by omega), h.ml.more (by omega), Nat.zero_le _, by have := h.n; omega⟩, read_is f2.dw i1, ?_, sy, i1⟩
  unfold MD.read
  rw [if_neg (by simp [f2.dw]), hsn]
def CF (C : SP) (w0 wr : World) (base b x : Nat) (most : Int) (kS k : Nat) (L : List Prm) (F : List Nat) : Prop :=
  ∃ M n S B O, PS k M n false L S B O [] ∧ Still8 M ∧ M.cap = 1073741824 ∧ Meas kS S ∧ 1073741824 ≤ most ∧ Sess C w0 wr base b x M n false L most F
def CFR (C : SP) (w0 wr : World) (base b x : Nat) (most : Int) (kS k : Nat) (sv : Value) (sq : Nat) : Prop := ∃ L F, CF C w0 wr base b x most kS k L F ∧ PRow wr F sv sq L
theorem CF.new {C : SP} {I : SI} (K : StK C I) {w0 w w' : World} {base b x : Nat} {most : Int} {kS k : Nat} {L : List Prm} {F : List Nat} (h : CF C w0 w base b x most kS k L F) (t : Turn [] w w') : CF C w0 w' base b x most kS k L F := by
  obtain ⟨M, n, S, B, O, h1, h2, h3, h4, h5, h6⟩ := h
  exact ⟨M, n, S, B, O, h1, h2, h3, h4, h5, h6.new K t⟩
theorem CF.grow {C : SP} {w0 w : World} {base b x : Nat} {most : Int} {kS k : Nat} {L : List Prm} {F : List Nat} (h : CF C w0 w base b x most kS k L F) : Grow w0 w := by
  obtain ⟨M, n, S, B, O, h1, h2, h3, h4, h5, h6⟩ := h
  exact h6.2.1
theorem CFR.new {C : SP} {I : SI} (K : StK C I) {w0 w w' : World} {base b x : Nat} {most : Int} {kS k : Nat} {sv : Value} {sq : Nat} (h : CFR C w0 w base b x most kS k sv sq) (t : Turn [] w w') : CFR C w0 w' base b x most kS k sv sq := by
  obtain ⟨L, F, h1, h2⟩ := h
  exact ⟨L, F, h1.new K t, h2.new t⟩
theorem CFR.grow {C : SP} {w0 w : World} {base b x : Nat} {most : Int} {kS k : Nat} {sv : Value} {sq : Nat} (h : CFR C w0 w base b x most kS k sv sq) : Grow w0 w := by
  obtain ⟨L, F, h1, h2⟩ := h
  exact h1.grow
theorem cf_commit {C : SP} {I : SI} (K : StK C I) {w0 w : World} {base b x : Nat} {most : Int} {kS k : Nat} {sv : Value} {sq : Nat} (h : CFR C w0 w base b x most kS k sv sq) (hk : k ≤ 80) (ht : Tab w0) {X : List Opm} {vo : Value} (ho : Opr w0 vo X.length X) (hm : mild X) :
    ∃ L : List Prm, L.length ≤ 60 * k ∧ Calls Tryz.prog 23 #[theSt x, vo] w (Left fun k4 w' => Grow w0 w' ∧
      (k4 = 0 → Prr w' sv sq L ∧ ∀ w'' ao q c, OwnP w'' w'.heap.size (.slice ao q c) (applyP L X) → q = (applyP L X).length → Below w'.heap.size w' w'' → CFR C w0 w'' base b x most kS (k + 1) (.slice ao q c) q) ∧
      (k4 ≠ 0 → CFR C w0 w' base b x most kS (k + 1) sv sq)) := by
  obtain ⟨L, F, ⟨M, n, S, B, O, h1, h2, h3, h4, h5, h6⟩, hrow⟩ := h
  refine ⟨L, h1.ml.len, (sess_commit K h6 ht (h1.sfit hk hm) (vo := vo) ho (by have := hm.2; omega)).mono ?_⟩
  rintro e w' ⟨k4, rfl, hk4, F4, hs4, f4, t4⟩
  obtain ⟨⟨B', O', p⟩, g2, g3, g4, g5, g6⟩ := few_step h1 h2 hk hm h5
  have hrow4 := hrow.step t4 f4
  rw [g2] at hs4
  refine ⟨k4, rfl, hs4.2.1, fun h0 => ⟨hrow4.1, fun w'' ao q c ho5 hq5 hb5 => ?_⟩, fun h0 => ?_⟩
  · have hRL := g5 (hk4.symm.trans h0)
    rw [hRL] at hs4 p
    obtain ⟨z1, z2⟩ := sure_next K hs4 ho5 hq5 (by have := (h1.ml.apply hm.1 hm.2).bulk; omega) hb5
    exact ⟨_, F4, ⟨_, _, S, B', O', p, g3, g4.trans h3, h4, h5, z1⟩, z2⟩
  · have hRL := g6 (by rw [← hk4]; exact h0)
    rw [hRL] at hs4 p
    exact ⟨L, F4, ⟨_, _, S, B', O', p, g3, g4.trans h3, h4, h5, hs4⟩, hrow4⟩
theorem cf_commit0 {C : SP} {I : SI} (K : StK C I) {w0 w : World} {base b x : Nat} {most : Int} {kS k : Nat} {L : List Prm} {F : List Nat} (h : CF C w0 w base b x most kS k L F) (hk : k ≤ 80) (ht : Tab w0) {X : List Opm} {vo : Value} (ho : Opr w0 vo X.length X) (hm : mild X) :
    Calls Tryz.prog 23 #[theSt x, vo] w (Left fun _ w' => ∃ L' F', CF C w0 w' base b x most kS (k + 1) L' F') := by
  obtain ⟨M, n, S, B, O, h1, h2, h3, h4, h5, h6⟩ := h
  refine (sess_commit K h6 ht (h1.sfit hk hm) (vo := vo) ho (by have := hm.2; omega)).mono ?_
  rintro e w' ⟨k4, rfl, hk4, F4, hs4, f4, t4⟩
  obtain ⟨⟨B', O', p⟩, g2, g3, g4, g5, g6⟩ := few_step h1 h2 hk hm h5
  rw [g2] at hs4
  exact ⟨k4, rfl, _, F4, _, _, S, B', O', p, g3, g4.trans h3, h4, h5, hs4⟩
def CFC (C : SP) (w0 wr : World) (base b x : Nat) (most : Int) (k : Nat) (sv : Value) (sq : Nat) : Prop :=
  ∃ L F M n O, PS k M n false L L [] O [] ∧ Still8 M ∧ M.cap = 1073741824 ∧ 1073741824 ≤ most ∧ Sess C w0 wr base b x M n false L most F ∧ PRow wr F sv sq L ∧ M.read logK = ([], 0) ∧ (M.read snapK).2 = 0
theorem CFC.cfr {C : SP} {w0 w : World} {base b x : Nat} {most : Int} {k : Nat} {sv : Value} {sq : Nat} (h : CFC C w0 w base b x most k sv sq) : CFR C w0 w base b x most k k sv sq := by
  obtain ⟨L, F, M, n, O, h1, h2, h3, h5, h6, h7, _⟩ := h
  exact ⟨L, F, ⟨M, n, L, [], O, h1, h2, h3, h1.ms, h5, h6⟩, h7⟩
theorem CFC.new {C : SP} {I : SI} (K : StK C I) {w0 w w' : World} {base b x : Nat} {most : Int} {k : Nat} {sv : Value} {sq : Nat} (h : CFC C w0 w base b x most k sv sq) (t : Turn [] w w') : CFC C w0 w' base b x most k sv sq := by
  obtain ⟨L, F, M, n, O, h1, h2, h3, h5, h6, h7, h8⟩ := h
  exact ⟨L, F, M, n, O, h1, h2, h3, h5, h6.new K t, h7.new t, h8⟩
theorem cf_check {C : SP} {I : SI} (K : StK C I) {w0 w : World} {base b x : Nat} {most : Int} {kS k : Nat} {sv : Value} {sq : Nat} (h : CFR C w0 w base b x most kS k sv sq) (hk : k ≤ 80) :
    Calls Tryz.prog 20 #[theSt x] w (Left fun k4 w' => k4 = 0 ∧ CFC C w0 w' base b x most (k + 1) sv sq) := by
  obtain ⟨L, F, ⟨M, n, S, B, O, h1, h2, h3, h4, h5, h6⟩, hrow⟩ := h
  obtain ⟨g1, g2, g3, g4, g5, g6, g7, g8, _⟩ := few_check h1 h2 hk h3
  refine (sess_check K h6 (h1.ml.slim (by omega)) h1.well (by omega) room10 (h1.ml.bytes (by omega))).mono ?_
  rintro e w' ⟨k4, rfl, hk4, F4, hs4, f4, t4⟩
  rw [g2] at hs4
  exact ⟨k4, rfl, hk4.trans g1, L, F4, _, _, O, g6, g3, g4, h5, hs4, hrow.step t4 f4, g7, g8⟩
theorem cf_log {C : SP} {I : SI} (K : StK C I) {w0 w : World} {base b x : Nat} {most : Int} {k : Nat} {sv : Value} {sq : Nat} (h : CFC C w0 w base b x most k sv sq) (hk : k ≤ 82) :
    Calls Tryz.prog 32 #[theDisk b, .string ⟨#[108, 111, 103]⟩] w fun e w' => ∃ ao c, e = .returned (.tuple #[.slice ao 0 c, .int .i64 0]) ∧ CFC C w0 w' base b x most k sv sq := by
  have hh := h
  obtain ⟨L, F, M, n, O, h1, h2, h3, h5, h6, h7, h8, h9⟩ := h
  obtain ⟨Fd, Fi, k1, _⟩ := h6.parts K
  refine (read_cd base b M Fd ⟨#[108, 111, 103]⟩ w k1.1 (well_limW room10 h1.well (by omega)).fs (by decide)).mono ?_
  rintro e w' ⟨ao, c, rfl, _, t⟩
  have e1 : M.read (ByteArray.mk #[108, 111, 103]).data.toList = ([], 0) := h8
  rw [e1]
  exact ⟨ao, c, rfl, hh.new K t⟩
theorem cf_snap {C : SP} {I : SI} (K : StK C I) {w0 w : World} {base b x : Nat} {most : Int} {k : Nat} {sv : Value} {sq : Nat} (h : CFC C w0 w base b x most k sv sq) (hk : k ≤ 82) :
    Calls Tryz.prog 32 #[theDisk b, .string ⟨#[115, 110, 97, 112]⟩] w fun e w' => ∃ ao n c, e = .returned (.tuple #[.slice ao n c, .int .i64 0]) ∧ CFC C w0 w' base b x most k sv sq := by
  have hh := h
  obtain ⟨L, F, M, n, O, h1, h2, h3, h5, h6, h7, h8, h9⟩ := h
  obtain ⟨Fd, Fi, k1, _⟩ := h6.parts K
  refine (read_cd base b M Fd ⟨#[115, 110, 97, 112]⟩ w k1.1 (well_limW room10 h1.well (by omega)).fs (by decide)).mono ?_
  rintro e w' ⟨ao, c, rfl, _, t⟩
  have e1 : (M.read (ByteArray.mk #[115, 110, 97, 112]).data.toList).2 = 0 := h9
  rw [e1]
  exact ⟨ao, _, c, rfl, hh.new K t⟩
theorem cf_all {C : SP} {I : SI} (K : StK C I) {w0 w : World} {base b x : Nat} {most : Int} {kS k : Nat} {sv : Value} {sq : Nat} (h : CFR C w0 w base b x most kS k sv sq) (hk : k ≤ 81) :
    Calls Tryz.prog 26 #[theSt x] w fun e w' => ∃ ao q c, e = .returned (.slice ao q c) ∧ Calls Tryz.prog 25 #[.slice ao q c, sv] w' fun e w'' => e = .returned (.bool true) ∧ CFR C w0 w'' base b x most kS k sv sq := by
  have hh := h
  obtain ⟨L, F, ⟨M, n, S, B, O, h1, h2, h3, h4, h5, h6⟩, hrow⟩ := h
  refine (sess_all K h6 (h1.ml.slim hk)).mono ?_
  rintro e w' ⟨ao, q, c, rfl, hp, t⟩
  refine ⟨ao, q, c, rfl, (pairs_at hp (hrow.new t).1 true (by simp)).mono ?_⟩
  rintro e w'' ⟨rfl, t'⟩
  exact ⟨rfl, (hh.new K t).new K t'⟩
def Rdy (w0 w : World) (base b : Nat) (sv : Value) (sq : Nat) : Prop := ∃ M L F K J j, SesD w0 w base b M F ∧ OFit K J j M ∧ (openS M).e = 0 ∧ (openS M).L = L ∧ Slim L ∧ PRow w F sv sq L
def Opd (C : SP) (w0 w : World) (base b y : Nat) (sv : Value) (sq : Nat) : Prop := ∃ M n L most F, Sess C w0 w base b y M n false L most F ∧ Slim L ∧ PRow w F sv sq L
theorem rdy_open {C : SP} {I : SI} (K : StK C I) {w0 w : World} {base b : Nat} {sv : Value} {sq : Nat} (h : Rdy w0 w base b sv sq) (ht : Tab w0) (most : Int) :
    Calls Tryz.prog 15 #[theDisk b, .int .i64 most] w fun e w' => ∃ y, e = .returned (.tuple #[theSt y, .int .i64 0]) ∧ Opd C w0 w' base b y sv sq := by
  obtain ⟨M, L, F, K1, J, j, h1, h2, h3, h4, h5, h6⟩ := h
  refine (sess_open K most h1 ht h2 h3).mono ?_
  rintro e w' ⟨y, rfl, F', hs, f, t⟩
  rw [h4] at hs
  exact ⟨y, rfl, _, _, L, _, F', hs, h5, h6.step t f⟩
theorem opd_all {C : SP} {I : SI} (K : StK C I) {w0 w : World} {base b y : Nat} {sv : Value} {sq : Nat} (h : Opd C w0 w base b y sv sq) :
    Calls Tryz.prog 26 #[theSt y] w fun e w' => ∃ ao q c, e = .returned (.slice ao q c) ∧ Calls Tryz.prog 25 #[.slice ao q c, sv] w' fun e w'' => e = .returned (.bool true) ∧ Grow w0 w'' := by
  obtain ⟨M, n, L, most, F, hs, hl, hrow⟩ := h
  refine (sess_all K hs hl).mono ?_
  rintro e w' ⟨ao, q, c, rfl, hp, t⟩
  refine ⟨ao, q, c, rfl, (pairs_at hp (hrow.new t).1 true (by simp)).mono ?_⟩
  rintro e w'' ⟨rfl, t'⟩
  exact ⟨rfl, hs.2.1.trans (tg9 (t.trans t'))⟩
theorem cf_restart {C : SP} {I : SI} (K : StK C I) {w0 w : World} {base b x : Nat} {most : Int} {kS k : Nat} {sv : Value} {sq : Nat} (h : CFR C w0 w base b x most kS k sv sq) (hk : k ≤ 81) (hkS : kS ≤ 45) (cap : Int) (hc : cap ≤ 9223372036854775807) :
    Calls Tryz.prog 18 #[theDisk b, .agg #[.int .i64 cap, .slice none 0 0, .int .i64 0, .bool false, .slice none 0 0]] w fun e w' => e = .returned (.tuple #[]) ∧ Rdy w0 w' base b sv sq := by
  obtain ⟨L, F, ⟨M, n, S, B, O, h1, h2, h3, h4, h5, h6⟩, hrow⟩ := h
  obtain ⟨tt, hdk', htt⟩ := dk_restart h1.sk.dk cap 0 false [] []
  obtain rfl := htt rfl
  have hw' := well_restart h1.well (cap := cap) (cr := 0) (dn := false) (zs := []) (ks := []) hc (by simp) (by simp)
  obtain ⟨q1, q2, q3⟩ := calm_open hdk' (still_restart M cap)
  have hL4 : (openS (M.restart cap 0 false [] [])).L = L := by
    obtain ⟨_, m, hm, k1⟩ := (dk_open hdk').2 q1
    have hmn : m = B := by
      rcases hm with h | ⟨h, _⟩
      · exact h
      · exact absurd rfl h
    rw [k1.L, hmn, h1.sk.L]
  refine (sess_restart K h6 (well_limW room10 h1.well (by omega)) cap 0 false).mono ?_
  rintro e w' ⟨rfl, Fi, _, _, F', hd, f, t, _⟩
  exact ⟨rfl, _, L, F', 440000, 2000, _, hd, dk_ofit hdk' hw' (by omega) room10 (by have := h1.b; omega) (by have := h4.bulk; omega), q1, hL4, h1.ml.slim hk, hrow.step t f⟩
end Go.Proofs.YthcdkggkoanjpaaGreatDoor
