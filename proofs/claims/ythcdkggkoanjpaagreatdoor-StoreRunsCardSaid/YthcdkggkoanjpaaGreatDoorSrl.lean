/- Both stores in one memory. Numbers and types by name. -/
import Derived.Test.YthcdkggkoanjpaaGreatDoorDre
import Derived.Test.YthcdkggkoanjpaaGreatDoorSti
import Derived.Test.YthcdkggkoanjpaaGreatDoorStf
import Derived.Test.YthcdkggkoanjpaaGreatDoorSro
namespace Go.Proofs.YthcdkggkoanjpaaGreatDoor
open Go.RowKit Go.Lib
set_option maxRecDepth 100000
def PE (k j : Nat) (M : MD) : Prop := ∃ S B O t, DK M S B O t ∧ Well 440000 M (9 * k + 10 + j) ∧ Meas k S ∧ Meas k (applyAll S B) ∧ B.length ≤ k ∧ (t ≠ [] → mild O)
def PF (k : Nat) (M : MD) (n : Nat) (s : Bool) (L : List Prm) : Prop := ∃ S B O t, PS k M n s L S B O t ∧ (t ≠ [] → mild O)
theorem PF.pe {k : Nat} {M : MD} {n : Nat} {s : Bool} {L : List Prm} (h : PF k M n s L) : PE k 0 M := by
  obtain ⟨S, B, O, t, h1, h2⟩ := h
  exact ⟨S, B, O, t, h1.sk.dk, h1.well, h1.ms, by rw [← h1.sk.L]; exact h1.ml, h1.b, h2⟩
theorem PE.well {k j : Nat} {M : MD} (h : PE k j M) : Well 440000 M (9 * k + 10 + j) := by
  obtain ⟨S, B, O, t, _, h2, _⟩ := h
  exact h2
theorem PF.well {k : Nat} {M : MD} {n : Nat} {s : Bool} {L : List Prm} (h : PF k M n s L) : Well 440000 M (9 * k + 10) := h.pe.well
theorem PF.slim {k : Nat} {M : MD} {n : Nat} {s : Bool} {L : List Prm} (h : PF k M n s L) (hk : k ≤ 80) : Slim L := by
  obtain ⟨S, B, O, t, h1, _⟩ := h
  exact h1.ml.slim (by omega)
theorem PF.bytes {k : Nat} {M : MD} {n : Nat} {s : Bool} {L : List Prm} (h : PF k M n s L) (hk : k ≤ 80) : (bytesT L).length ≤ 440000 := by
  obtain ⟨S, B, O, t, h1, _⟩ := h
  exact h1.ml.bytes (by omega)
theorem PF.sfit {k : Nat} {M : MD} {n : Nat} {s : Bool} {L : List Prm} (h : PF k M n s L) (hk : k ≤ 80) {X : List Opm} (hm : mild X) : SFit 440000 2000 (9 * k + 10) M n L X := by
  obtain ⟨S, B, O, t, h1, _⟩ := h
  exact h1.sfit hk hm
theorem PE.more {k j : Nat} {M : MD} (h : PE k j M) (hj : j ≤ 9) : PE (k + 1) 0 M := by
  obtain ⟨S, B, O, t, h1, h2, h3, h4, h5, h6⟩ := h
  exact ⟨S, B, O, t, h1, well_more h2 (by omega), h3.more (by omega), h4.more (by omega), by omega, h6⟩
theorem PF.more {k : Nat} {M : MD} {n : Nat} {s : Bool} {L : List Prm} (h : PF k M n s L) : PF (k + 1) M n s L := by
  obtain ⟨S, B, O, t, h1, h2⟩ := h
  exact ⟨S, B, O, t, h1.more, h2⟩
theorem pe_new (cap cr : Int) (dn : Bool) (zs ks : List Int) (hc : cap ≤ 9223372036854775807) (hz : zs.length ≤ 200) (hk : ks.length ≤ 200) : PE 0 0 (MD.new cap cr dn zs ks) :=
  ⟨[], [], [], [], dk_new cap cr dn zs ks, well_more (well_new _ _ _ _ _ _ hc hz hk) (by omega), Meas.nil, Meas.nil, Nat.le_refl _, fun h => absurd rfl h⟩
theorem pe_restart {k : Nat} {M : MD} (h : PE k 0 M) (cap cr : Int) (dn : Bool) (zs ks : List Int) (hc : cap ≤ 9223372036854775807) (hz : zs.length ≤ 200) (hk : ks.length ≤ 200) : PE k 1 (M.restart cap cr dn zs ks) := by
  obtain ⟨S, B, O, t, h1, h2, h3, h4, h5, h6⟩ := h
  obtain ⟨t', g1, g2⟩ := dk_restart h1 cap cr dn zs ks
  exact ⟨S, B, O, t', g1, well_more (well_restart h2 hc hz hk) (by omega), h3, h4, h5, fun h => h6 fun e => h (g2 e)⟩
theorem PE.ofit {k j : Nat} {M : MD} (h : PE k j M) (hk : k ≤ 62) (hj : j ≤ 1) : OFit 440000 2000 (9 * k + 10 + j) M := by
  obtain ⟨S, B, O, t, h1, h2, h3, h4, h5, h6⟩ := h
  exact dk_ofitB h1 h2 (by omega) room10 (by omega) (by have := h3.bulk; omega)
theorem pe_open {k j : Nat} {M : MD} (h : PE k j M) (hj : j ≤ 1) :
    ((openS M).e ≠ 0 → PE (k + 1) 0 (openS M).M) ∧ ((openS M).e = 0 → PF (k + 1) (openS M).M (openS M).n false (openS M).L) := by
  obtain ⟨S, B, O, t, h1, h2, h3, h4, h5, h6⟩ := h
  obtain ⟨o1, o2⟩ := dk_open h1
  have hw : Well 440000 (openS M).M (9 * (k + 1) + 10) := well_more (well_openS h2) (by omega)
  refine ⟨fun he => ?_, fun he => ?_⟩
  · obtain ⟨t', k1, k2⟩ := o1 he
    exact ⟨S, B, O, t', k1, well_more hw (by omega), h3.more (by omega), h4.more (by omega), by omega, fun h => h6 fun e => h (k2 e)⟩
  · obtain ⟨g1, m, hm, k1⟩ := o2 he
    refine ⟨S, m, O, [], ⟨k1, hw, ?_, h3.more (by omega), ?_, ?_⟩, fun h => absurd rfl h⟩
    · rw [k1.L]
      rcases hm with rfl | ⟨ht, rfl⟩
      · exact h4.more (by omega)
      · rw [applyAll_snoc]; exact h4.apply (h6 ht).1 (h6 ht).2
    · rcases hm with rfl | ⟨ht, rfl⟩
      · omega
      · rw [List.length_append, List.length_singleton]; omega
    · rw [k1.n rfl]
      have h1 := EB_len k1.dk.sm
      rcases hm with rfl | ⟨ht, rfl⟩
      · omega
      · rw [List.length_append, List.length_singleton] at h1; omega
theorem pf_commit {k : Nat} {M : MD} {n : Nat} {s : Bool} {L : List Prm} (h : PF k M n s L) (hk : k ≤ 80) {X : List Opm} (hm : mild X) (most : Int) :
    PF (k + 1) (commitS most M n s L X).M (commitS most M n s L X).n (commitS most M n s L X).s (commitS most M n s L X).L := by
  obtain ⟨S, B, O, t, h1, h2⟩ := h
  obtain ⟨p1, p2⟩ := ps_commit h1 hk hm most
  by_cases he : (commitS most M n s L X).e = 0
  · obtain ⟨S', B', k1, k2⟩ := p1 he
    rw [k2]
    exact ⟨S', B', O, [], k1, fun h => absurd rfl h⟩
  · obtain ⟨q1, q2, q3⟩ := p2 he
    rw [q1]
    by_cases h8 : (commitS most M n s L X).e = 8
    · exact ⟨S, B, O, t, q3 (.inl h8), h2⟩
    · cases hok : okOps X with
      | false => exact ⟨S, B, O, t, q3 (.inr hok), h2⟩
      | true =>
        obtain ⟨t', k1⟩ := q2 h8 hok
        exact ⟨S, B, X, t', k1, fun _ => hm⟩
theorem pf_check {k : Nat} {M : MD} {n : Nat} {s : Bool} {L : List Prm} (h : PF k M n s L) (hk : k ≤ 80) : PF (k + 1) (checkS M n s L).M (checkS M n s L).n (checkS M n s L).s (checkS M n s L).L := by
  obtain ⟨S, B, O, t, h1, h2⟩ := h
  obtain ⟨S', B', k1, k2, _⟩ := sk_check h1.sk (h1.ml.slim (by omega))
  have hn := check_n M n s L
  have hnk := h1.n
  have hb := h1.b
  rw [checkS_L]
  refine ⟨S', B', O, t, ⟨k1, well_more (well_checkS h1.well n s (h1.ml.bytes (by omega))) (by omega), h1.ml.more (by omega), ?_, ?_, by omega⟩, h2⟩
  · rcases k2 with ⟨rfl, _⟩ | ⟨rfl, _⟩
    · exact h1.ms.more (by omega)
    · exact h1.ml.more (by omega)
  · rcases k2 with ⟨_, rfl⟩ | ⟨_, rfl | rfl⟩
    · omega
    · omega
    · exact Nat.zero_le _
def DuoS (C : SP) (w0 w : World) (base b r x t : Nat) (most : Int) (M1 : MD) (n1 : Nat) (s1 : Bool) (L1 : List Prm) (M2 : MD) (n2 : Nat) (s2 : Bool) (L2 : List Prm) : Prop :=
  ∃ F Fr G, Sess C w0 w base b x M1 n1 s1 L1 most F ∧ RSt w r t M2 n2 s2 L2 most Fr G ∧ (∀ q ∈ F, q ∉ Fr ∧ q ∉ G) ∧ ∀ q ∈ Fr, w0.heap.size ≤ q
def DuoH (C : SP) (w0 w : World) (base b r x : Nat) (most : Int) (M1 : MD) (n1 : Nat) (s1 : Bool) (L1 : List Prm) (M2 : MD) : Prop :=
  ∃ F Fr G, Sess C w0 w base b x M1 n1 s1 L1 most F ∧ RD w r M2 Fr G ∧ (∀ q ∈ F, q ∉ Fr ∧ q ∉ G) ∧ ∀ q ∈ Fr, w0.heap.size ≤ q
def DuoD (w0 w : World) (base b r : Nat) (M1 M2 : MD) : Prop := Grow w0 w ∧ w0.heap.size ≤ base ∧ Both (· < w0.heap.size) w base b r M1 M2
theorem DuoS.grow {C : SP} {w0 w : World} {base b r x t : Nat} {most : Int} {M1 M2 : MD} {n1 n2 : Nat} {s1 s2 : Bool} {L1 L2 : List Prm} (h : DuoS C w0 w base b r x t most M1 n1 s1 L1 M2 n2 s2 L2) : Grow w0 w := by
  obtain ⟨F, Fr, G, h1, _⟩ := h
  exact h1.2.1
theorem DuoS.new {C : SP} {I : SI} (K : StK C I) {w0 w w' : World} {base b r x t : Nat} {most : Int} {M1 M2 : MD} {n1 n2 : Nat} {s1 s2 : Bool} {L1 L2 : List Prm} (h : DuoS C w0 w base b r x t most M1 n1 s1 L1 M2 n2 s2 L2) (tt : Turn [] w w') : DuoS C w0 w' base b r x t most M1 n1 s1 L1 M2 n2 s2 L2 := by
  obtain ⟨F, Fr, G, h1, h2, h3, h4⟩ := h
  exact ⟨F, Fr, G, h1.new K tt, h2.new tt, h3, h4⟩
theorem DuoS.disks {C : SP} {I : SI} (K : StK C I) {w0 w : World} {base b r x t : Nat} {most : Int} {M1 M2 : MD} {n1 n2 : Nat} {s1 s2 : Bool} {L1 L2 : List Prm} (h : DuoS C w0 w base b r x t most M1 n1 s1 L1 M2 n2 s2 L2) : DuoD w0 w base b r M1 M2 := by
  obtain ⟨F, Fr, G, h1, h2, h3, h4⟩ := h
  obtain ⟨Fd, Fi, k1, _, k3, _⟩ := h1.parts K
  obtain ⟨Fe, Ge, d1, d2, d3⟩ := h2.disk
  exact ⟨h1.2.1, h1.2.2, fun q hq => Nat.lt_of_lt_of_le hq h1.2.1.size, Fd, Fe, Ge, k1.1, d1, fun q hq => ⟨fun hm => (h3 q (k3 q hq).1).1 (d2 q hm), fun hm => (h3 q (k3 q hq).1).2 (d3 q hm), fun hm => by
    have := (k1.1.lt q hq).1
    have := h1.2.2
    have hm' : q < w0.heap.size := hm
    omega⟩, fun q hq hm => by have := h4 q (d2 q hq); have hm' : q < w0.heap.size := hm; omega⟩
theorem duos_code {C : SP} {w0 w w' : World} {base b r x t : Nat} {most : Int} {M1 M2 : MD} {n1 n2 : Nat} {s1 s2 : Bool} {L1 L2 : List Prm} {F Fr G : List Nat} (h2 : RSt w r t M2 n2 s2 L2 most Fr G) (h3 : ∀ q ∈ F, q ∉ Fr ∧ q ∉ G) (h4 : ∀ q ∈ Fr, w0.heap.size ≤ q) (hn : SStep C w0 w w' base b x M1 n1 s1 L1 most F) : DuoS C w0 w' base b r x t most M1 n1 s1 L1 M2 n2 s2 L2 := by
  obtain ⟨F', k1, k2, tt⟩ := hn
  obtain ⟨l1, l2⟩ := h2.lt
  refine ⟨F', Fr, G, k1, h2.keep tt (fun k hk hm => (h3 k hm).1 hk) (fun k hk hm => (h3 k hm).2 hk), fun q hq => ?_, h4⟩
  rcases k2 q hq with e | e
  · exact h3 q e
  · exact ⟨fun hm => by have := l1 q hm; omega, fun hm => by have := (l2 q hm).2; omega⟩
theorem sess_beside {C : SP} {I : SI} (K : StK C I) {w0 w w' : World} {base b x : Nat} {most : Int} {M1 : MD} {n1 : Nat} {s1 : Bool} {L1 : List Prm} {F Fr : List Nat} (h1 : Sess C w0 w base b x M1 n1 s1 L1 most F) (h3 : ∀ q ∈ F, q ∉ Fr) (h4 : ∀ q ∈ Fr, w0.heap.size ≤ q) (tt : Turn Fr w w') : Sess C w0 w' base b x M1 n1 s1 L1 most F :=
  ⟨K.keep h1.1 tt h3, tg9 ((tb9 h1.2.1).trans' tt fun k hk => .inr (h4 k hk)), h1.2.2⟩
theorem duos_ref {C : SP} {I : SI} (K : StK C I) {w0 w w' : World} {base b r x t : Nat} {most : Int} {M1 M2 : MD} {n1 n2 : Nat} {s1 s2 : Bool} {L1 L2 : List Prm} {F Fr G : List Nat} (h1 : Sess C w0 w base b x M1 n1 s1 L1 most F) (h3 : ∀ q ∈ F, q ∉ Fr ∧ q ∉ G) (h4 : ∀ q ∈ Fr, w0.heap.size ≤ q) (hn : RStNext w w' r t M2 n2 s2 L2 most Fr G) : DuoS C w0 w' base b r x t most M1 n1 s1 L1 M2 n2 s2 L2 := by
  obtain ⟨Fr', G', k1, k2, k3, tt⟩ := hn
  have hsz := h1.2.1.size
  refine ⟨F, Fr', G', sess_beside K h1 (fun q hq => (h3 q hq).1) h4 tt, k1, fun q hq => ⟨fun hm => ?_, fun hm => ?_⟩, fun q hq => ?_⟩
  · rcases k2 q hm with e | e
    · exact (h3 q hq).1 e
    · have := (K.lt h1.1 q hq).2; omega
  · rcases k3 q hm with e | e
    · exact (h3 q hq).2 e
    · have := (K.lt h1.1 q hq).2; omega
  · rcases k2 q hq with e | e
    · exact h4 q e
    · omega
theorem duos_commit {C : SP} {I : SI} (K : StK C I) {w0 w : World} {base b r x t : Nat} {most : Int} {M M2 : MD} {n n2 : Nat} {s s2 : Bool} {L L2 : List Prm} (h : DuoS C w0 w base b r x t most M n s L M2 n2 s2 L2) (ht : Tab w0) {K1 J j : Nat} {X : List Opm} (hf : SFit K1 J j M n L X) {vo : Value} {m : Nat} (ho : Opr w0 vo m X) (hm : m ≤ 5000) :
    Calls Tryz.prog 23 #[theSt x, vo] w (Left fun k w' => k = (commitS most M n s L X).e ∧ DuoS C w0 w' base b r x t most (commitS most M n s L X).M (commitS most M n s L X).n (commitS most M n s L X).s (commitS most M n s L X).L M2 n2 s2 L2) := by
  obtain ⟨F, Fr, G, h1, h2, h3, h4⟩ := h
  refine (sess_commit K h1 ht hf ho hm).mono ?_
  rintro e w' ⟨k, rfl, hk, hn⟩
  exact ⟨k, rfl, hk, duos_code h2 h3 h4 hn⟩
theorem duos_commit_ref {C : SP} {I : SI} (K : StK C I) {w0 w : World} {base b r x t : Nat} {most : Int} {M M1 : MD} {n n1 : Nat} {s s1 : Bool} {L L1 : List Prm} (h : DuoS C w0 w base b r x t most M1 n1 s1 L1 M n s L) {K1 J j : Nat} {X : List Opm} (hf : SFit K1 J j M n L X) {vo : Value} {m : Nat} (ho : Opr w0 vo m X) (hm : m ≤ 5000) :
    Calls Tryz.prog 24 #[.pointer (some ⟨t, 0, none⟩), vo] w (Left fun k w' => k = (commitS most M n s L X).e ∧ DuoS C w0 w' base b r x t most M1 n1 s1 L1 (commitS most M n s L X).M (commitS most M n s L X).n (commitS most M n s L X).s (commitS most M n s L X).L) := by
  obtain ⟨F, Fr, G, h1, h2, h3, h4⟩ := h
  refine (ref_scommit r t M n s L most Fr G vo m X w h2 hf (fun w' tt => ho.later (tg9 ((tb9 h1.2.1).trans' tt fun k hk => .inr (h4 k hk)))) hm).mono ?_
  rintro e w' ⟨k, rfl, hk, hn⟩
  exact ⟨k, rfl, hk, duos_ref K h1 h3 h4 hn⟩
theorem duos_check {C : SP} {I : SI} (K : StK C I) {w0 w : World} {base b r x t : Nat} {most : Int} {M M2 : MD} {n n2 : Nat} {s s2 : Bool} {L L2 : List Prm} (h : DuoS C w0 w base b r x t most M n s L M2 n2 s2 L2) (hs : Slim L) {K1 J j : Nat} (hw : Well K1 M j) (hj : j + 5 ≤ J) (hR : RoomW K1 J) (hK : (bytesT L).length ≤ K1) :
    Calls Tryz.prog 20 #[theSt x] w (Left fun k w' => k = (checkS M n s L).e ∧ DuoS C w0 w' base b r x t most (checkS M n s L).M (checkS M n s L).n (checkS M n s L).s L M2 n2 s2 L2) := by
  obtain ⟨F, Fr, G, h1, h2, h3, h4⟩ := h
  refine (sess_check K h1 hs hw hj hR hK).mono ?_
  rintro e w' ⟨k, rfl, hk, hn⟩
  exact ⟨k, rfl, hk, duos_code h2 h3 h4 hn⟩
theorem duos_check_ref {C : SP} {I : SI} (K : StK C I) {w0 w : World} {base b r x t : Nat} {most : Int} {M M1 : MD} {n n1 : Nat} {s s1 : Bool} {L L1 : List Prm} (h : DuoS C w0 w base b r x t most M1 n1 s1 L1 M n s L) (hs : Slim L) {K1 J j : Nat} (hw : Well K1 M j) (hj : j + 5 ≤ J) (hR : RoomW K1 J) (hK : (bytesT L).length ≤ K1) :
    Calls Tryz.prog 21 #[.pointer (some ⟨t, 0, none⟩)] w (Left fun k w' => k = (checkS M n s L).e ∧ DuoS C w0 w' base b r x t most M1 n1 s1 L1 (checkS M n s L).M (checkS M n s L).n (checkS M n s L).s L) := by
  obtain ⟨F, Fr, G, h1, h2, h3, h4⟩ := h
  refine (ref_scheck r t M n s L most Fr G w h2 hs hw hj hR hK).mono ?_
  rintro e w' ⟨k, rfl, hk, hn⟩
  exact ⟨k, rfl, hk, duos_ref K h1 h3 h4 hn⟩
theorem duos_sick {C : SP} {I : SI} (K : StK C I) {w0 w : World} {base b r x t : Nat} {most : Int} {M M2 : MD} {n n2 : Nat} {s s2 : Bool} {L L2 : List Prm} (h : DuoS C w0 w base b r x t most M n s L M2 n2 s2 L2) :
    Calls Tryz.prog 22 #[theSt x] w fun e w' => e = .returned (.bool s) ∧ Turn [] w w' := by
  obtain ⟨F, Fr, G, h1, _⟩ := h
  exact K.sick h1.1
theorem duos_all {C : SP} {I : SI} (K : StK C I) {w0 w : World} {base b r x t : Nat} {most : Int} {M M2 : MD} {n n2 : Nat} {s s2 : Bool} {L L2 : List Prm} (h : DuoS C w0 w base b r x t most M n s L M2 n2 s2 L2) (hs : Slim L) :
    Calls Tryz.prog 26 #[theSt x] w fun e w' => ∃ ao q c, e = .returned (.slice ao q c) ∧ Prr w' (.slice ao q c) q L ∧ Turn [] w w' := by
  obtain ⟨F, Fr, G, h1, _⟩ := h
  exact sess_all K h1 hs
def DuoO (C : SP) (w0 w : World) (base b r : Nat) (most : Int) (R : SOpen) (M2 : MD) (sv : Value) : Prop :=
  (R.e ≠ 0 ∧ sv = .pointer none ∧ DuoD w0 w base b r R.M M2) ∨ (R.e = 0 ∧ ∃ x, sv = theSt x ∧ DuoH C w0 w base b r x (max most 0) R.M R.n false R.L M2)
theorem duo_sopen {C : SP} {I : SI} (K : StK C I) {w0 w : World} {base b r : Nat} {M M2 : MD} (most : Int) (h : DuoD w0 w base b r M M2) (ht : Tab w0) {K1 J j : Nat} (hf : OFit K1 J j M) :
    Calls Tryz.prog 15 #[theDisk b, .int .i64 most] w fun e w' => ∃ sv, e = .returned (.tuple #[sv, .int .i64 (openS M).e]) ∧ DuoO C w0 w' base b r most (openS M) M2 sv := by
  obtain ⟨hg, hb, h0, Fd, Fr, G, h1, h2, h3, h4⟩ := h
  refine (K.opens most h1 (TabAt.mk ht hg hb) hf).mono ?_
  have gr : ∀ w', Turn Fd w w' → Grow w0 w' := fun w' tt => turn_base hg hb (fun k hk => (h1.lt k hk).1) tt
  rintro e w' (⟨he, rfl, hn⟩ | ⟨he, x, F', rfl, k1, k2, tt⟩)
  · have hn' := hn
    obtain ⟨F', _, _, tt⟩ := hn'
    obtain ⟨b1, _⟩ := Both.code h0 h2 h3 h4 hn
    exact ⟨_, rfl, .inl ⟨he, rfl, gr w' tt, hb, b1⟩⟩
  · obtain ⟨l1, l2⟩ := h2.lt
    refine ⟨_, by rw [he], .inr ⟨he, x, rfl, F', Fr, G, ⟨k1, gr w' tt, hb⟩, h2.keep tt (fun k hk hm => (h3 k hm).1 hk) (fun k hk hm => (h3 k hm).2.1 hk), fun q hq => ?_, fun q hq => by have := h4 q hq; omega⟩⟩
    rcases k2 q hq with e | e
    · exact ⟨(h3 q e).1, (h3 q e).2.1⟩
    · exact ⟨fun hm => by have := l1 q hm; omega, fun hm => by have := (l2 q hm).2; omega⟩
def RunS (C : SP) (w0 w : World) (base b r : Nat) (most : Int) (k : Nat) (sv tv : Value) : Prop :=
  (sv = .pointer none ∧ tv = .pointer none ∧ ∃ M, PE k 0 M ∧ DuoD w0 w base b r M M) ∨
  (∃ x t M n s L, sv = theSt x ∧ tv = .pointer (some ⟨t, 0, none⟩) ∧ PF k M n s L ∧ DuoS C w0 w base b r x t most M n s L M n s L)
theorem duo_sopen_ref {C : SP} {I : SI} (K : StK C I) {w0 w : World} {base b r : Nat} {M : MD} {sv : Value} (most : Int) (h : DuoO C w0 w base b r most (openS M) M sv) {k j : Nat} (hp : PE k j M) (hk : k ≤ 62) (hj : j ≤ 1) :
    Calls Tryz.prog 16 #[theRef r, .int .i64 most] w fun e w' => ∃ tv, e = .returned (.tuple #[tv, .int .i64 (openS M).e]) ∧ RunS C w0 w' base b r (max most 0) (k + 1) sv tv ∧ ((sv = .pointer none ∧ tv = .pointer none) ∨ ∃ x t, sv = theSt x ∧ tv = .pointer (some ⟨t, 0, none⟩)) := by
  obtain ⟨p1, p2⟩ := pe_open hp hj
  rcases h with ⟨he, rfl, hg, hb, h0, Fd, Fr, G, h1, h2, h3, h4⟩ | ⟨he, x, rfl, F, Fr, G, h1, h2, h3, h4⟩
  · refine (ref_sopen r M Fr G most w h2 (hp.ofit hk hj)).mono ?_
    rintro e w' (⟨_, rfl, hn⟩ | ⟨h, _⟩)
    · have hn' := hn
      obtain ⟨F', G', _, _, _, tt⟩ := hn'
      obtain ⟨b1, st⟩ := Both.refd h0 h1 h2 h3 h4 (by simp) hn
      exact ⟨_, rfl, .inl ⟨rfl, rfl, _, p1 he, Below.trans hg st.below, hb, b1⟩, .inl ⟨rfl, rfl⟩⟩
    · exact absurd h he
  · refine (ref_sopen r M Fr G most w h2 (hp.ofit hk hj)).mono ?_
    rintro e w' (⟨h, _⟩ | ⟨_, t, F', G', rfl, k1, k2, k3, tt⟩)
    · exact absurd he h
    · exact ⟨_, by rw [he], .inr ⟨x, t, _, _, _, _, rfl, rfl, p2 he, duos_ref K h1 h3 h4 ⟨F', G', k1, k2, k3, tt⟩⟩, .inr ⟨x, t, rfl, rfl⟩⟩
theorem duo_sopen2 {C : SP} {I : SI} (K : StK C I) {w0 w : World} {base b r : Nat} {M M2 : MD} (most : Int) (h : DuoD w0 w base b r M M2) (ht : Tab w0) {K1 J j : Nat} (hf : OFit K1 J j M) :
    Calls Tryz.prog 15 #[theDisk b, .int .i64 most] w fun e w' => ∃ aw, e = .returned (.tuple #[.pointer aw, .int .i64 (openS M).e]) ∧ DuoO C w0 w' base b r most (openS M) M2 (.pointer aw) := by
  refine (duo_sopen K most h ht hf).mono ?_
  rintro e w' ⟨sv, rfl, hh⟩
  have hq := hh
  rcases hq with ⟨_, rfl, _⟩ | ⟨_, x, rfl, _⟩
  · exact ⟨_, rfl, hh⟩
  · exact ⟨_, rfl, hh⟩
theorem duo_sopen_ref2 {C : SP} {I : SI} (K : StK C I) {w0 w : World} {base b r : Nat} {M : MD} {aw : Option Addr} (most : Int) (h : DuoO C w0 w base b r most (openS M) M (.pointer aw)) {k j : Nat} (hp : PE k j M) (hk : k ≤ 62) (hj : j ≤ 1) :
    Calls Tryz.prog 16 #[theRef r, .int .i64 most] w fun e w' => ∃ av, e = .returned (.tuple #[.pointer av, .int .i64 (openS M).e]) ∧ RunS C w0 w' base b r (max most 0) (k + 1) (.pointer aw) (.pointer av) ∧ aw.isNone = av.isNone := by
  refine (duo_sopen_ref K most h hp hk hj).mono ?_
  rintro e w' ⟨tv, rfl, hr, (⟨e1, rfl⟩ | ⟨x, t, e1, rfl⟩)⟩
  · refine ⟨none, rfl, hr, ?_⟩
    cases e1
    rfl
  · refine ⟨_, rfl, hr, ?_⟩
    unfold theSt at e1
    cases e1
    rfl
theorem RunS.new {C : SP} {I : SI} (K : StK C I) {w0 w w' : World} {base b r : Nat} {most : Int} {k : Nat} {sv tv : Value} (h : RunS C w0 w base b r most k sv tv) (tt : Turn [] w w') : RunS C w0 w' base b r most k sv tv := by
  rcases h with ⟨h1, h2, M, h3, h4⟩ | ⟨x, t, M, n, s, L, h1, h2, h3, h4⟩
  · exact .inl ⟨h1, h2, M, h3, h4.1.trans (tg9 tt), h4.2.1, h4.2.2.new tt⟩
  · exact .inr ⟨x, t, M, n, s, L, h1, h2, h3, h4.new K tt⟩
theorem RunS.more {C : SP} {w0 w : World} {base b r : Nat} {most : Int} {k : Nat} {sv tv : Value} (h : RunS C w0 w base b r most k sv tv) : RunS C w0 w base b r most (k + 1) sv tv := by
  rcases h with ⟨h1, h2, M, h3, h4⟩ | ⟨x, t, M, n, s, L, h1, h2, h3, h4⟩
  · exact .inl ⟨h1, h2, M, h3.more (by omega), h4⟩
  · exact .inr ⟨x, t, M, n, s, L, h1, h2, h3.more, h4⟩
theorem RunS.disks {C : SP} {I : SI} (K : StK C I) {w0 w : World} {base b r : Nat} {most : Int} {k : Nat} {sv tv : Value} (h : RunS C w0 w base b r most k sv tv) : ∃ M, PE k 0 M ∧ DuoD w0 w base b r M M := by
  rcases h with ⟨h1, h2, M, h3, h4⟩ | ⟨x, t, M, n, s, L, h1, h2, h3, h4⟩
  · exact ⟨M, h3, h4⟩
  · exact ⟨M, h3.pe, h4.disks K⟩
theorem RunS.grow {C : SP} {I : SI} (K : StK C I) {w0 w : World} {base b r : Nat} {most : Int} {k : Nat} {sv tv : Value} (h : RunS C w0 w base b r most k sv tv) : Grow w0 w := by
  obtain ⟨M, _, h⟩ := h.disks K
  exact h.1
theorem duod_restart {w0 w : World} {base b r : Nat} {M M2 : MD} (h : DuoD w0 w base b r M M2) (hl : Lim M) (cap cr : Int) (dn : Bool) (fl kp : Value) (zs ks : List Int) (hf : Reads w0 fl (iv zs)) (hk : Reads w0 kp (iv ks))
    (hfX : zs ≠ [] → ∀ a n c, fl = .slice (some a) n c → a.block < w0.heap.size) (hkX : ks ≠ [] → ∀ a n c, kp = .slice (some a) n c → a.block < w0.heap.size) (hz : zs.length ≤ 200) (hz2 : ks.length ≤ 200) :
    Calls Tryz.prog 18 #[theDisk b, .agg #[.int .i64 cap, fl, .int .i64 cr, .bool dn, kp]] w fun e w' => e = .returned (.tuple #[]) ∧ DuoD w0 w' base b r (M.restart cap cr dn zs ks) M2 := by
  refine (code_restart h.2.2 hl cap cr dn fl kp zs ks (hf.later h.1) (hk.later h.1) hfX hkX hz hz2).mono ?_
  rintro e w' ⟨rfl, hb, hst⟩
  exact ⟨rfl, Below.trans h.1 hst.below, h.2.1, hb⟩
theorem duod_restart_ref {w0 w : World} {base b r : Nat} {M M1 : MD} (h : DuoD w0 w base b r M1 M) (hl : Lim M) (cap cr : Int) (dn : Bool) (fl kp : Value) (zs ks : List Int) (hf : Reads w0 fl (iv zs)) (hk : Reads w0 kp (iv ks))
    (hfX : zs ≠ [] → ∀ a n c, fl = .slice (some a) n c → a.block < w0.heap.size) (hkX : ks ≠ [] → ∀ a n c, kp = .slice (some a) n c → a.block < w0.heap.size) :
    Calls Tryz.prog 19 #[theRef r, .agg #[.int .i64 cap, fl, .int .i64 cr, .bool dn, kp]] w fun e w' => e = .returned (.tuple #[]) ∧ DuoD w0 w' base b r M1 (M.restart cap cr dn zs ks) := by
  refine (ref_restart_both h.2.2 hl cap cr dn fl kp zs ks (hf.later h.1) (hk.later h.1) hfX hkX).mono ?_
  rintro e w' ⟨rfl, hb, hst⟩
  exact ⟨rfl, Below.trans h.1 hst.below, h.2.1, hb⟩
theorem duos_see {C : SP} {w0 w : World} {base b r x t : Nat} {most : Int} {M1 M2 : MD} {n1 n2 : Nat} {s1 s2 : Bool} {L1 L2 : List Prm} (h : DuoS C w0 w base b r x t most M1 n1 s1 L1 M2 n2 s2 L2) :
    ∃ p ao q c, Prr w (.slice ao q c) q L2 ∧ ∀ w', Grow w w' → w'.cell? ⟨t, 0, none⟩ = some (.pointer (some ⟨p, 0, none⟩)) ∧ w'.cell? ⟨p, 2, none⟩ = some (.bool s2) ∧ w'.cell? ⟨t, 1, none⟩ = some (.slice ao q c) := by
  obtain ⟨F, Fr, G, _, ⟨p, v, q, Fw, Gw, h1, h2, h3, _⟩, _⟩ := h
  obtain ⟨ao, c, rfl⟩ := h3.shape
  exact ⟨p, ao, q, c, h3, fun w' hg => ⟨grow_cell hg (sob_0 h2), grow_cell hg (wob_2 h1.2.2.2), grow_cell hg (sob_1 h2)⟩⟩
end Go.Proofs.YthcdkggkoanjpaaGreatDoor
