/- A text that is a module, with declarations behind it: what the plain parser tells. Plain facts. Numbers and types by name. -/
import Derived.Test.YtfcfbdemfbkgmaaDoorPlf
namespace Go.Proofs.YtfcfbdemfbkgmaaDoor
open Go.RowKit Go.Lib
set_option maxRecDepth 100000

section
variable {L L' : List Tk} {K : Nat}
theorem want_ok {s : PS} {t : List UInt8} (h : (wantT L s t).e = 0) : isT L s t = true ∧ wantT L s t = s.go := by
  unfold wantT at h ⊢
  split at h
  · rename_i hc
    exact ⟨hc, if_pos hc⟩
  · exact absurd h (fail_e (by decide))
theorem agr_wantE (A : Agr L L' K) {s : PS} {t : List UInt8} (h : (wantT L s t).e = 0) (hi : (wantT L s t).i ≤ K + 1) : s.i ≤ K ∧ wantT L' s t = wantT L s t := by
  obtain ⟨_, h2⟩ := want_ok h
  rw [h2] at hi
  have hk : s.i ≤ K := Nat.le_of_succ_le_succ hi
  exact ⟨hk, A.want hk _⟩
theorem agr_blockE (A : Agr L L' K) {s : PS} (he : (blockN L s).2.e = 0) (h : (blockN L s).2.i ≤ K + 1) : s.i ≤ K ∧ blockN L' s = blockN L s := by
  have hla := A.la
  have hlb := A.lb
  unfold blockN at h he ⊢
  unfold blockT at h he ⊢
  simp only at h he ⊢
  obtain ⟨_, w2⟩ := want_ok (L := L) (t := [125]) he
  rw [w2] at h
  have k1 : (stmLoop L (stmtT L (L.length + 1)) (L.length + 1) (openT L s [123]) []).2.i ≤ K := Nat.le_of_succ_le_succ h
  have k2 := Nat.le_trans (stmLoop_goes A.a (stmt_goes A.a _) _ _ _).i k1
  have h0 : s.i ≤ K := by
    refine Nat.le_trans ?_ k2
    show s.i ≤ (wantT L (if isT L s [123] = true ∧ 40 ≤ s.deep then failT L s 12 else s) [123]).i
    refine Nat.le_trans ?_ (want_goes A.a _ _).i
    split
    · exact (fail_goes (L := L) _ _).i
    · exact Nat.le_refl _
  refine ⟨h0, ?_⟩
  have f := fr_lt K (openT L s [123])
  rw [A.opn h0, A.stmLoop (N := K + 2) (fun s3 h3 h4 => A.stmt _ _ s3 (by omega) (by omega) h4) (stmt_goes A.a _) (fun s3 he hi hf3 => fr_stmt A.a _ he hi) _ _ _ _ (by omega) (by omega) f k1, A.want k1]
theorem agr_procE (A : Agr L L' K) {s : PS} (he : (procT L s).2.e = 0) (h : (procT L s).2.i ≤ K + 1) : s.i ≤ K ∧ procT L' s = procT L s := by
  unfold procT at h he ⊢
  simp only at h he ⊢
  obtain ⟨k9, eb⟩ := agr_blockE A he h
  have k8 := Nat.le_trans (list_goes A.a (name_goes A.a) _ _).i k9
  have k7 := Nat.le_trans (want_goes A.a _ _).i k8
  have k6 := Nat.le_trans (want_goes A.a _ _).i k7
  have k5 := Nat.le_trans (name_goes A.a _).i k6
  have k4 := Nat.le_trans (want_goes A.a _ _).i k5
  have k3 : (listT L (paramT L) (wantT L (nameT L s).2 [40]) [41]).2.i ≤ K := by
    split at k4
    · exact Nat.le_trans (Nat.le_succ _) (Nat.le_trans (name_goes A.a (listT L (paramT L) (wantT L (nameT L s).2 [40]) [41]).2.go).i k4)
    · exact k4
  have k2 := Nat.le_trans (list_goes A.a (param_goes A.a) _ _).i k3
  have k1 := Nat.le_trans (want_goes A.a _ _).i k2
  have k0 := Nat.le_trans (name_goes A.a _).i k1
  refine ⟨k0, ?_⟩
  rw [A.name k0, A.want k1, A.list A.param (param_goes A.a) k3, A.is k3, A.cur k0]
  split
  · rename_i hc
    simp only [if_pos hc] at eb k4 k5 k6 k7 k8 k9
    rw [A.nameA _ k4, A.want k4, A.name k5, A.want k6, A.want k7, A.list A.nameA (name_goes A.a) k9, eb]
  · rename_i hc
    simp only [if_neg hc] at eb k4 k5 k6 k7 k8 k9
    rw [A.want k4, A.name k5, A.want k6, A.want k7, A.list A.nameA (name_goes A.a) k9, eb]
theorem agr_varE (A : Agr L L' K) {s : PS} (he : (varT L s).2.e = 0) (h : (varT L s).2.i ≤ K + 1) : s.i ≤ K ∧ varT L' s = varT L s := by
  unfold varT at h he ⊢
  simp only at h he ⊢
  split at he
  · exact absurd he (fail_e (by decide))
  rename_i hc
  rw [if_neg hc] at h
  obtain ⟨k6, ew⟩ := agr_wantE A he h
  have k5 : (takeT L (wantT L (nameT L (wantT L (nameT L s).2 [58])).2 [61]) [45]).i ≤ K := Nat.le_trans (Nat.le_succ _) k6
  have k4 := Nat.le_trans (take_goes A.a _ _).i k5
  have k3 := Nat.le_trans (want_goes A.a _ _).i k4
  have k2 := Nat.le_trans (name_goes A.a _).i k3
  have k1 := Nat.le_trans (want_goes A.a _ _).i k2
  have k0 := Nat.le_trans (name_goes A.a _).i k1
  refine ⟨k0, ?_⟩
  rw [A.name k0, A.want k1, A.name k2, A.want k3, A.take k4, A.cur k5, A.cur k0, A.fail k5, A.is k4, if_neg hc, if_neg hc, ew]
theorem agr_impE (A : Agr L L' K) (hn : ∀ s : PS, s.i = K + 1 → isT L s kImport = false ∧ isT L' s kImport = false) : ∀ (q q' : Nat) (s : PS) (acc : List Imp), frT (K + 1) s < q → frT (K + 1) s < q' → (impLoop L q s acc).2.e = 0 → (impLoop L q s acc).2.i ≤ K + 1 → impLoop L' q' s acc = impLoop L q s acc
  | 0, _, _, _, h, _, _, _ => absurd h (Nat.not_lt_zero _)
  | _ + 1, 0, _, _, _, h, _, _ => absurd h (Nat.not_lt_zero _)
  | q + 1, q' + 1, s, acc, a1, a2, he, h4 => by
    have h0 : s.i ≤ K + 1 := Nat.le_trans (imp_goes' A.a _ _ _).i h4
    unfold impLoop at h4 he ⊢
    simp only at h4 he ⊢
    by_cases hk : s.i = K + 1
    · obtain ⟨n1, n2⟩ := hn s hk
      rw [n1, n2, if_neg (by simp), if_neg (by simp)]
    have h1 : s.i ≤ K := by omega
    rw [A.is h1]
    split at h4
    · rename_i hc
      rw [if_pos hc] at he
      rw [if_pos hc, if_pos hc]
      have g := imp_goes' A.a q (wantT L (nameT L s.go).2 [59]) (acc ++ [⟨(nameT L s.go).1, (curT L s.go).pos⟩])
      have e3 : (wantT L (nameT L s.go).2 [59]).e = 0 := by
        by_cases x : (wantT L (nameT L s.go).2 [59]).e = 0
        · exact x
        · rw [g.err x] at he
          exact absurd he x
      obtain ⟨k2, ew⟩ := agr_wantE A e3 (Nat.le_trans g.i h4)
      have k1 := Nat.le_trans (name_goes A.a _).i k2
      have hf := fr_go (K := K + 1) (isT_e hc).1 h0
      have hr := ((name_goes A.a s.go).trans (want_goes A.a (nameT L s.go).2 [59])).fr (K := K + 1)
      rw [A.name k1, A.cur k1, ew]
      exact agr_impE A hn q q' _ _ (by omega) (by omega) he h4
    · rename_i hc
      rw [if_neg hc, if_neg hc]
theorem agr_declE (A : Agr L L' K) (hk : ∀ s : PS, s.i = K + 1 → (curT L s).kind = 0) : ∀ (q q' : Nat) (s : PS) (vs : List Vrb) (ps : List Prc), frT (K + 1) s < q → frT (K + 1) s < q' → (declLoop L q s vs ps).2.e = 0 → (declLoop L q s vs ps).2.i = K + 1 →
    ∃ q2, q' ≤ q2 + frT (K + 1) s ∧ declLoop L' q' s vs ps = declLoop L' q2 (declLoop L q s vs ps).2 (declLoop L q s vs ps).1.1 (declLoop L q s vs ps).1.2
  | 0, _, _, _, _, h, _, _, _ => absurd h (Nat.not_lt_zero _)
  | _ + 1, 0, _, _, _, _, h, _, _ => absurd h (Nat.not_lt_zero _)
  | q + 1, q' + 1, s, vs, ps, a1, a2, he, h4 => by
    have h0 : s.i ≤ K + 1 := by
      have := (decl_goes' A.a (q + 1) s vs ps).i
      omega
    by_cases hz : s.i = K + 1
    · have hc := hk s hz
      have e1 : declLoop L (q + 1) s vs ps = ((vs, ps), s) := by
        rw [declLoop, if_pos (.inr hc)]
      rw [e1]
      exact ⟨q' + 1, Nat.le_add_right _ _, rfl⟩
    have h1 : s.i ≤ K := by omega
    have e0 : s.e = 0 := by
      by_cases x : s.e = 0
      · exact x
      · rw [(decl_goes' A.a (q + 1) s vs ps).err x] at he
        exact absurd he x
    have hf := fr_go (K := K + 1) e0 h0
    have hkk : ¬ (curT L s).kind = 0 := by
      intro hc
      have e1 : declLoop L (q + 1) s vs ps = ((vs, ps), s) := by
        rw [declLoop, if_pos (.inr hc)]
      rw [e1] at h4
      exact hz h4
    have hc1 : ¬ (s.e ≠ 0 ∨ (curT L s).kind = 0) := fun h => h.elim (fun h => h e0) hkk
    have hc2 : ¬ (s.e ≠ 0 ∨ (curT L' s).kind = 0) := by rw [A.cur h1]; exact hc1
    have ok : ∀ {s3 : PS} {r : PS}, Goes L s3 r → r.e = 0 → s3.e = 0 := fun {s3 r} g h => by
      by_cases x : s3.e = 0
      · exact x
      · rw [g.err x] at h
        exact absurd h x
    by_cases hv : isT L s kVar = true
    · have e1 : declLoop L (q + 1) s vs ps = declLoop L q (varT L s.go).2 (vs ++ [(varT L s.go).1]) ps := by
        rw [declLoop, if_neg hc1, if_pos hv]
      rw [e1] at he h4 ⊢
      have g := decl_goes' A.a q (varT L s.go).2 (vs ++ [(varT L s.go).1]) ps
      obtain ⟨_, ev⟩ := agr_varE A (ok g he) (by have := g.i; omega)
      have hr := (var_goes A.a s.go).fr (K := K + 1)
      obtain ⟨q2, b1, b2⟩ := agr_declE A hk q q' _ _ _ (by omega) (by omega) he h4
      refine ⟨q2, by omega, ?_⟩
      rw [← b2, declLoop, if_neg hc2, A.is h1, if_pos hv, ev]
    · by_cases hp : isT L s kProc = true
      · have e1 : declLoop L (q + 1) s vs ps = declLoop L q (procT L s.go).2 vs (ps ++ [(procT L s.go).1]) := by
          rw [declLoop, if_neg hc1, if_neg hv, if_pos hp]
        rw [e1] at he h4 ⊢
        have g := decl_goes' A.a q (procT L s.go).2 vs (ps ++ [(procT L s.go).1])
        obtain ⟨_, ev⟩ := agr_procE A (ok g he) (by have := g.i; omega)
        have hr := (proc_goes A.a s.go).fr (K := K + 1)
        obtain ⟨q2, b1, b2⟩ := agr_declE A hk q q' _ _ _ (by omega) (by omega) he h4
        refine ⟨q2, by omega, ?_⟩
        rw [← b2, declLoop, if_neg hc2, A.is h1, if_neg hv, A.is h1, if_pos hp, ev]
      · exfalso
        have e1 : declLoop L (q + 1) s vs ps = declLoop L q (failT L s 11) vs ps := by
          rw [declLoop, if_neg hc1, if_neg hv, if_neg hp]
        rw [e1] at he
        have g := decl_goes' A.a q (failT L s 11) vs ps
        exact fail_e (L := L) (s := s) (x := 11) (by decide) (ok g he)
theorem decl_end (hL : TokL L) : ∀ (q : Nat) (s : PS) (vs : List Vrb) (ps : List Prc), remT L s < q → (declLoop L q s vs ps).2.e = 0 → (curT L (declLoop L q s vs ps).2).kind = 0
  | 0, _, _, _, h, _ => absurd h (Nat.not_lt_zero _)
  | q + 1, s, vs, ps, h, he => by
    by_cases hc : s.e ≠ 0 ∨ (curT L s).kind = 0
    · have e1 : declLoop L (q + 1) s vs ps = ((vs, ps), s) := by rw [declLoop, if_pos hc]
      rw [e1] at he ⊢
      exact hc.elim (fun h => absurd he h) id
    have e0 : s.e = 0 := by
      rw [not_or, Decidable.not_not] at hc
      exact hc.1
    have hi : s.i < L.length := by
      by_cases x : s.i < L.length
      · exact x
      · exfalso
        apply hc
        right
        show (L.getD s.i ⟨0, [], 0⟩).kind = 0
        rw [List.getD_eq_getElem?_getD, List.getElem?_eq_none (by omega)]
        rfl
    have hf := rem_go (L := L) e0 hi
    rw [declLoop, if_neg hc] at he ⊢
    split at he
    · rename_i hv
      have := (var_goes hL s.go).rem
      rw [if_pos hv]
      exact decl_end hL q _ _ _ (by omega) he
    · rename_i hv
      rw [if_neg hv]
      split at he
      · rename_i hp
        have := (proc_goes hL s.go).rem
        rw [if_pos hp]
        exact decl_end hL q _ _ _ (by omega) he
      · rename_i hp
        rw [if_neg hp]
        have := rem_fail (L := L) (x := 11) (by decide) e0 hi
        exact decl_end hL q _ _ _ (by omega) he
end

/-- One more: "var v : l = - 3; proc q() pc l uses { } { }". -/
def moreL : List UInt8 := [118, 97, 114, 32, 118, 32, 58, 32, 108, 32, 61, 32, 45, 32, 51, 59, 32, 112, 114, 111, 99, 32, 113, 40, 41, 32, 112, 99, 32, 108, 32, 117, 115, 101, 115, 32, 123, 32, 125, 32, 123, 32, 125]
def moreK : List (Int × List UInt8) := [(3, [118, 97, 114]), (1, [118]), (4, [58]), (1, [108]), (4, [61]), (4, [45]), (2, [51]), (4, [59]), (3, [112, 114, 111, 99]), (1, [113]), (4, [40]), (4, [41]), (3, [112, 99]), (1, [108]), (3, [117, 115, 101, 115]), (4, [123]), (4, [125]), (4, [123]), (4, [125])]
theorem more_lex : (lexA 0 moreL).e = 0 ∧ ktL (lexA 0 moreL).l = moreK ++ [(0, [])] := by decide +kernel
/-- k more, each behind a line's end. -/
def moresL : Nat → List UInt8
  | 0 => []
  | k + 1 => moresL k ++ 10 :: moreL
def moresK : Nat → List (Int × List UInt8)
  | 0 => []
  | k + 1 => moresK k ++ moreK
theorem moresL_len (k : Nat) : (moresL k).length = 44 * k := by
  induction k with
  | zero => rfl
  | succ k ih =>
    show (moresL k ++ 10 :: moreL).length = _
    rw [List.length_append, ih, show (10 :: moreL).length = 44 from rfl]
    omega
theorem ktL_append (A B : List Tk) : ktL (A ++ B) = ktL A ++ ktL B := by
  unfold ktL
  rw [List.map_append]
theorem lex_more (a : List UInt8) (T : List Tk) (j : Nat) (h : (lexA 0 a).e = 0) (hT : (lexA 0 a).l = T ++ [⟨0, [], j⟩]) : ∀ k, (lexA 0 (a ++ moresL k)).e = 0 ∧ ∃ M, (lexA 0 (a ++ moresL k)).l = T ++ M ∧ ktL M = moresK k ++ [(0, [])]
  | 0 => by
    rw [show a ++ moresL 0 = a by rw [show moresL 0 = [] from rfl, List.append_nil]]
    exact ⟨h, [⟨0, [], j⟩], hT, rfl⟩
  | k + 1 => by
    obtain ⟨e1, M, e2, e3⟩ := lex_more a T j h hT k
    obtain ⟨m1, m2⟩ := more_lex
    have e4 : a ++ moresL (k + 1) = (a ++ moresL k) ++ 10 :: moreL := by
      rw [List.append_assoc]
      rfl
    have hj := lexA_join moreL _ 0 (a ++ moresL k) (Nat.le_refl _) e1
    rw [Nat.zero_add] at hj
    obtain ⟨s1, s2⟩ := lexA_shift ((a ++ moresL k).length + 1) _ 0 moreL (Nat.le_refl _)
    rw [Nat.zero_add] at s1 s2
    rw [e4, hj]
    refine ⟨s2.trans m1, ?_⟩
    unfold appL
    rw [if_pos (s2.trans m1)]
    have hM : M ≠ [] := by
      rintro rfl
      have := congrArg List.length e3
      unfold ktL at this
      simp at this
    refine ⟨M.dropLast ++ (lexA ((a ++ moresL k).length + 1) moreL).l, ?_, ?_⟩
    · show (lexA 0 (a ++ moresL k)).l.dropLast ++ _ = _
      rw [e2, List.dropLast_append_of_ne_nil hM, List.append_assoc]
    · rw [ktL_append, s1, kt_shift, m2]
      have : ktL M.dropLast = (ktL M).dropLast := by
        unfold ktL
        rw [List.map_dropLast]
      rw [this, e3, List.dropLast_concat, ← List.append_assoc]
      rfl

theorem more_step {L : List Tk} {s : PS} {r : List (Int × List UInt8)} (he : s.e = 0) (hd : s.deep = 0) (h : ktL (L.drop s.i) = moreK ++ r) (q : Nat) (vs : List Vrb) (ps : List Prc) (_hl : 2 ≤ L.length) :
    ∃ v p, v.init = -3 ∧ declLoop L (q + 2) s vs ps = declLoop L q ⟨s.i + 19, 0, 0, s.pos⟩ (vs ++ [v]) (ps ++ [p]) ∧ ktL (L.drop (s.i + 19)) = r := by
  obtain ⟨i, d, e, z⟩ := s
  simp only at he hd h
  subst he hd
  have hh : ∀ j, ktL (L.drop (i + j)) = (moreK ++ r).drop j := fun j => by
    rw [← h]
    unfold ktL
    rw [← List.map_drop, List.drop_drop]
  obtain ⟨c0, _, _⟩ := kt_cur (s := ⟨i, 0, 0, z⟩) (hh 0)
  obtain ⟨c6, t6, _⟩ := kt_cur (s := ⟨i + 6, 0, 0, z⟩) (hh 6)
  obtain ⟨c8, _, _⟩ := kt_cur (s := ⟨i + 8, 0, 0, z⟩) (hh 8)
  have hv : varT L ⟨i + 1, 0, 0, z⟩ = (⟨[118], [108], -3, (curT L ⟨i + 1, 0, 0, z⟩).pos⟩, ⟨i + 8, 0, 0, z⟩) := by
    unfold varT
    simp only
    rw [name_yes (s := ⟨i + 1, 0, 0, z⟩) (hh 1) rfl]
    rw [show PS.go ⟨i + 1, 0, 0, z⟩ = ⟨i + 2, 0, 0, z⟩ from rfl, want_yes (s := ⟨i + 2, 0, 0, z⟩) (hh 2) rfl (by decide)]
    rw [show PS.go ⟨i + 2, 0, 0, z⟩ = ⟨i + 3, 0, 0, z⟩ from rfl, name_yes (s := ⟨i + 3, 0, 0, z⟩) (hh 3) rfl]
    rw [show PS.go ⟨i + 3, 0, 0, z⟩ = ⟨i + 4, 0, 0, z⟩ from rfl, want_yes (s := ⟨i + 4, 0, 0, z⟩) (hh 4) rfl (by decide)]
    rw [show PS.go ⟨i + 4, 0, 0, z⟩ = ⟨i + 5, 0, 0, z⟩ from rfl]
    have h5 := is_at (s := ⟨i + 5, 0, 0, z⟩) (t := [45]) (hh 5) rfl true (by decide)
    have ht : takeT L ⟨i + 5, 0, 0, z⟩ [45] = ⟨i + 6, 0, 0, z⟩ := by
      unfold takeT
      rw [if_pos h5]
      rfl
    rw [ht, h5, c6, t6, if_neg (by simp), if_pos rfl]
    rw [show PS.go ⟨i + 6, 0, 0, z⟩ = ⟨i + 7, 0, 0, z⟩ from rfl, want_yes (s := ⟨i + 7, 0, 0, z⟩) (hh 7) rfl (by decide)]
    rfl
  have hb : blockN L ⟨i + 17, 0, 0, z⟩ = ([], ⟨i + 19, 0, 0, z⟩) := by
    unfold blockN blockT
    simp only
    have ho : openT L ⟨i + 17, 0, 0, z⟩ [123] = ⟨i + 18, 1, 0, z⟩ := by
      unfold openT
      simp only
      rw [if_neg (by simp), want_yes (s := ⟨i + 17, 0, 0, z⟩) (hh 17) rfl (by decide)]
      rfl
    rw [ho, stmLoop, is_at (s := ⟨i + 18, 1, 0, z⟩) (t := [125]) (hh 18) rfl true (by decide), if_pos (by simp)]
    simp only
    rw [want_yes (s := ⟨i + 18, 1, 0, z⟩) (hh 18) rfl (by decide)]
    rfl
  have q1 : listT L (paramT L) ⟨i + 11, 0, 0, z⟩ [41] = ([], ⟨i + 12, 0, 0, z⟩) := by
    unfold listT
    simp only
    rw [is_at (s := ⟨i + 11, 0, 0, z⟩) (t := [41]) (hh 11) rfl true (by decide), if_pos rfl]
    simp only
    rw [want_yes (s := ⟨i + 11, 0, 0, z⟩) (hh 11) rfl (by decide)]
    rfl
  have q2 : listT L (nameT L) ⟨i + 16, 0, 0, z⟩ [125] = ([], ⟨i + 17, 0, 0, z⟩) := by
    unfold listT
    simp only
    rw [is_at (s := ⟨i + 16, 0, 0, z⟩) (t := [125]) (hh 16) rfl true (by decide), if_pos rfl]
    simp only
    rw [want_yes (s := ⟨i + 16, 0, 0, z⟩) (hh 16) rfl (by decide)]
    rfl
  have hp : procT L ⟨i + 9, 0, 0, z⟩ = (⟨[113], [], false, [], [108], [], [], (curT L ⟨i + 9, 0, 0, z⟩).pos⟩, ⟨i + 19, 0, 0, z⟩) := by
    unfold procT
    simp only
    rw [name_yes (s := ⟨i + 9, 0, 0, z⟩) (hh 9) rfl]
    rw [show PS.go ⟨i + 9, 0, 0, z⟩ = ⟨i + 10, 0, 0, z⟩ from rfl, want_yes (s := ⟨i + 10, 0, 0, z⟩) (hh 10) rfl (by decide)]
    rw [show PS.go ⟨i + 10, 0, 0, z⟩ = ⟨i + 11, 0, 0, z⟩ from rfl, q1]
    simp only
    rw [is_at (s := ⟨i + 12, 0, 0, z⟩) (t := [45, 62]) (hh 12) rfl false (by decide), if_neg (by simp)]
    simp only
    rw [want_yes (s := ⟨i + 12, 0, 0, z⟩) (t := kPc) (hh 12) rfl (by decide)]
    rw [show PS.go ⟨i + 12, 0, 0, z⟩ = ⟨i + 13, 0, 0, z⟩ from rfl, name_yes (s := ⟨i + 13, 0, 0, z⟩) (hh 13) rfl]
    simp only
    rw [show PS.go ⟨i + 13, 0, 0, z⟩ = ⟨i + 14, 0, 0, z⟩ from rfl, want_yes (s := ⟨i + 14, 0, 0, z⟩) (t := kUses) (hh 14) rfl (by decide)]
    rw [show PS.go ⟨i + 14, 0, 0, z⟩ = ⟨i + 15, 0, 0, z⟩ from rfl, want_yes (s := ⟨i + 15, 0, 0, z⟩) (hh 15) rfl (by decide)]
    rw [show PS.go ⟨i + 15, 0, 0, z⟩ = ⟨i + 16, 0, 0, z⟩ from rfl, q2]
    simp only
    rw [hb]
  refine ⟨⟨[118], [108], -3, (curT L ⟨i + 1, 0, 0, z⟩).pos⟩, ⟨[113], [], false, [], [108], [], [], (curT L ⟨i + 9, 0, 0, z⟩).pos⟩, rfl, ?_, hh 19⟩
  · rw [declLoop, if_neg (by rw [c0]; simp), is_at (s := ⟨i, 0, 0, z⟩) (t := kVar) (hh 0) rfl true (by decide), if_pos rfl]
    simp only
    rw [show PS.go ⟨i, 0, 0, z⟩ = ⟨i + 1, 0, 0, z⟩ from rfl, hv]
    simp only
    rw [declLoop, if_neg (by rw [c8]; simp), is_at (s := ⟨i + 8, 0, 0, z⟩) (t := kVar) (hh 8) rfl false (by decide), if_neg (by simp), is_at (s := ⟨i + 8, 0, 0, z⟩) (t := kProc) (hh 8) rfl true (by decide), if_pos rfl]
    simp only
    rw [show PS.go ⟨i + 8, 0, 0, z⟩ = ⟨i + 9, 0, 0, z⟩ from rfl, hp]
theorem more_steps {L : List Tk} : ∀ (k q : Nat) (s : PS) (vs : List Vrb) (ps : List Prc), s.e = 0 → s.deep = 0 → ktL (L.drop s.i) = moresK k ++ [(0, [])] → 2 * k < q → 2 ≤ L.length →
    ∃ V P s', declLoop L q s vs ps = ((vs ++ V, ps ++ P), s') ∧ s'.e = 0 ∧ V.length = k ∧ P.length = k ∧ ∀ v ∈ V, v.init = -3
  | 0, q, s, vs, ps, he, hd, h, hq, hl => by
    obtain ⟨q, rfl⟩ : ∃ r, q = r + 1 := ⟨q - 1, by omega⟩
    obtain ⟨c, _, _⟩ := kt_cur h
    refine ⟨[], [], s, ?_, he, rfl, rfl, by simp⟩
    rw [declLoop, if_pos (.inr c), List.append_nil, List.append_nil]
  | k + 1, q, s, vs, ps, he, hd, h, hq, hl => by
    obtain ⟨q, rfl⟩ : ∃ r, q = r + 2 := ⟨q - 2, by omega⟩
    have hsw : ∀ k, moresK k ++ moreK = moreK ++ moresK k := by
      intro k
      induction k with
      | zero => rw [show moresK 0 = [] from rfl, List.nil_append, List.append_nil]
      | succ k ih =>
        show (moresK k ++ moreK) ++ moreK = moreK ++ (moresK k ++ moreK)
        rw [ih, List.append_assoc, ih]
    have h' : ktL (L.drop s.i) = moreK ++ (moresK k ++ [(0, [])]) := by
      rw [h, ← List.append_assoc, ← hsw]
      rfl
    obtain ⟨v, p, b1, b2, b3⟩ := more_step he hd h' q vs ps hl
    obtain ⟨V, P, s', d1, d2, d3, d4, d5⟩ := more_steps k q ⟨s.i + 19, 0, 0, s.pos⟩ (vs ++ [v]) (ps ++ [p]) rfl rfl b3 (by omega) hl
    refine ⟨v :: V, p :: P, s', ?_, d2, by simp [d3], by simp [d4], ?_⟩
    · rw [b2, d1, List.append_assoc, List.append_assoc]
      rfl
    · intro x hx
      rcases List.mem_cons.1 hx with rfl | hx
      · exact b1
      · exact d5 x hx

/-- What stands behind a module's declarations changes nothing of them. -/
theorem parse_more (a : List UInt8) (k : Nat) (hk : k < 9) (ha : a.length ≤ 1000) (h : (parseP a).2.1 = 0) :
    ∃ V P, V.length = k ∧ P.length = k ∧ (∀ v ∈ V, v.init = -3) ∧ parseP (a ++ moresL k) = ({ (parseP a).1 with vars := (parseP a).1.vars ++ V, procs := (parseP a).1.procs ++ P }, 0, 0) := by
  have sm : ∀ {l : List UInt8}, l.length ≤ 8192 → lexP l = lexA 0 l := fun h => if_neg (by omega)
  have hml := moresL_len k
  have h1 : (lexP a).e = 0 := by
    by_cases x : (lexP a).e = 0
    · exact x
    · exfalso
      unfold parseP at h
      rw [if_pos x] at h
      exact x h
  have h2 : (moduleT (lexP a).l ps0).2.e = 0 := by
    by_cases x : (moduleT (lexP a).l ps0).2.e = 0
    · exact x
    · exfalso
      unfold parseP at h
      rw [if_neg (by rw [h1]; simp)] at h
      simp only at h
      rw [if_pos x] at h
      exact x h
  have h3 : parseP a = ((moduleT (lexP a).l ps0).1, 0, 0) := by
    unfold parseP
    rw [if_neg (by rw [h1]; simp)]
    simp only
    rw [if_neg (by rw [h2]; simp)]
  have ea := sm (l := a) (by omega)
  have eb := sm (l := a ++ moresL k) (by rw [List.length_append]; omega)
  obtain ⟨T, j, eT, _, _, hT⟩ := (lexA_LexL _ 0 a (Nat.le_refl _) (by rw [← ea]; exact h1)).shape
  obtain ⟨m1, M, m2, m3⟩ := lex_more a T j (by rw [← ea]; exact h1) eT k
  rw [← eb] at m1 m2
  rw [← ea] at eT
  have tL := (lexP_tokL h1).1
  have tL' := (lexP_tokL m1).1
  generalize (lexP a).l = L at *
  obtain ⟨L', hL'⟩ : ∃ L', (lexP (a ++ moresL k)).l = L' := ⟨_, rfl⟩
  rw [hL'] at tL' m2
  have hg := module_goes tL ps0
  have hi := hg.lt tL.pos
  have hdp : (moduleT L ps0).2.deep = 0 := hg.deep
  have ok : ∀ {s3 : PS} {r : PS}, Goes L s3 r → r.e = 0 → s3.e = 0 := fun {s3 r} g h => by
    by_cases x : s3.e = 0
    · exact x
    · rw [g.err x] at h
      exact absurd h x
  have hLl : L.length = T.length + 1 := by rw [eT]; simp
  have hMl : M.length = 19 * k + 1 := by
    have := congrArg List.length m3
    have hm : ∀ k, (moresK k).length = 19 * k := by
      intro k
      induction k with
      | zero => rfl
      | succ k ih =>
        show (moresK k ++ moreK).length = _
        rw [List.length_append, ih, show moreK.length = 19 from rfl]
        omega
    unfold ktL at this
    rw [List.length_map, List.length_append, hm] at this
    simpa using this
  have hLl' : L'.length = T.length + M.length := by rw [m2]; simp
  have kT : ∀ i, i < T.length → (L.getD i ⟨0, [], 0⟩).kind ≠ 0 := fun i hi => by
    rw [eT, List.getD_eq_getElem?_getD, List.getElem?_append_left hi, List.getElem?_eq_getElem hi]
    have := (hT _ (List.getElem_mem hi)).1.k
    show (T[i]).kind ≠ 0
    omega
  have kE : ∀ s : PS, s.i = T.length → curT L s = ⟨0, [], j⟩ := fun s h => by
    show L.getD s.i _ = _
    rw [h, eT, List.getD_eq_getElem?_getD, List.getElem?_append_right (Nat.le_refl _), Nat.sub_self]
    rfl
  unfold moduleT at h2 hi hdp h3
  simp only at h2 hi hdp h3
  have g5 := decl_goes' tL (L.length + 1) (impLoop L (L.length + 1) (wantT L (nameT L (wantT L ps0 kModule)).2 [59]) []).2 [] []
  have e5 := ok g5 h2
  have g4 := imp_goes' tL (L.length + 1) (wantT L (nameT L (wantT L ps0 kModule)).2 [59]) []
  have e4 := ok g4 e5
  have hend := decl_end tL (L.length + 1) (impLoop L (L.length + 1) (wantT L (nameT L (wantT L ps0 kModule)).2 [59]) []).2 [] [] (rem_lt (g4.lt ((want_goes tL _ _).lt ((name_goes tL _).lt ((want_goes tL _ _).lt tL.pos))))) h2
  have hfin : (declLoop L (L.length + 1) (impLoop L (L.length + 1) (wantT L (nameT L (wantT L ps0 kModule)).2 [59]) []).2 [] []).2.i = T.length := by
    by_cases x : (declLoop L (L.length + 1) (impLoop L (L.length + 1) (wantT L (nameT L (wantT L ps0 kModule)).2 [59]) []).2 [] []).2.i < T.length
    · exact absurd hend (kT _ x)
    · omega
  have hpos : 0 < T.length := by
    obtain ⟨_, h7⟩ := want_ok e4
    have h8 : (wantT L (nameT L (wantT L ps0 kModule)).2 [59]).i ≤ T.length := by rw [← hfin]; exact Nat.le_trans g4.i g5.i
    rw [h7] at h8
    exact Nat.lt_of_lt_of_le (Nat.succ_pos _) h8
  obtain ⟨K, hK⟩ : ∃ K, T.length = K + 1 := ⟨T.length - 1, by omega⟩
  have A : Agr L L' K := ⟨tL, tL', fun i hi => by
    rw [eT, m2, List.getD_eq_getElem?_getD, List.getD_eq_getElem?_getD, List.getElem?_append_left (by omega), List.getElem?_append_left (by omega)], by omega, by omega⟩
  have dM : ∀ s : PS, s.i = K + 1 → ktL (L'.drop s.i) = moresK k ++ [(0, [])] := fun s h => by
    rw [h, ← hK, m2, List.drop_left, m3]
  rw [hK] at hfin
  obtain ⟨w1, w2⟩ := agr_wantE A e4 (by rw [← hfin]; exact Nat.le_trans g4.i g5.i)
  have w3 := Nat.le_trans (name_goes tL _).i w1
  have hn : ∀ s : PS, s.i = K + 1 → isT L s kImport = false ∧ isT L' s kImport = false := fun s h => by
    constructor
    · unfold isT
      rw [kE s (by omega)]
      simp
    · have hd := dM s h
      unfold isT
      cases k with
      | zero =>
        obtain ⟨c1, _⟩ := kt_cur (x := (0, [])) (r := []) hd
        rw [c1]
        simp
      | succ k =>
        have hsw : ∀ k, moresK k ++ moreK = moreK ++ moresK k := by
          intro k
          induction k with
          | zero => rw [show moresK 0 = [] from rfl, List.nil_append, List.append_nil]
          | succ k ih =>
            show (moresK k ++ moreK) ++ moreK = moreK ++ (moresK k ++ moreK)
            rw [ih, List.append_assoc, ih]
        rw [show moresK (k + 1) = moresK k ++ moreK from rfl, hsw] at hd
        obtain ⟨_, c1, _⟩ := kt_cur (x := (3, [118, 97, 114])) hd
        rw [c1]
        simp [kImport]
  have f4 := fr_lt (K + 1) (wantT L (nameT L (wantT L ps0 kModule)).2 [59])
  have f5 := fr_lt (K + 1) (impLoop L (L.length + 1) (wantT L (nameT L (wantT L ps0 kModule)).2 [59]) []).2
  have ei := agr_impE A hn (L.length + 1) (L'.length + 1) (wantT L (nameT L (wantT L ps0 kModule)).2 [59]) [] (by omega) (by omega) e5 (by rw [← hfin]; exact g5.i)
  obtain ⟨q2, b1, b2⟩ := agr_declE A (fun s h => by rw [kE s (by omega)]) (L.length + 1) (L'.length + 1) (impLoop L (L.length + 1) (wantT L (nameT L (wantT L ps0 kModule)).2 [59]) []).2 [] [] (by omega) (by omega) h2 hfin
  obtain ⟨V, P, s', d1, d2, d3, d4, d5⟩ := more_steps (L := L') k q2 (declLoop L (L.length + 1) (impLoop L (L.length + 1) (wantT L (nameT L (wantT L ps0 kModule)).2 [59]) []).2 [] []).2 (declLoop L (L.length + 1) (impLoop L (L.length + 1) (wantT L (nameT L (wantT L ps0 kModule)).2 [59]) []).2 [] []).1.1 (declLoop L (L.length + 1) (impLoop L (L.length + 1) (wantT L (nameT L (wantT L ps0 kModule)).2 [59]) []).2 [] []).1.2 h2 hdp (dM _ hfin) (by omega) (by omega)
  refine ⟨V, P, d3, d4, d5, ?_⟩
  rw [h3]
  unfold parseP
  rw [if_neg (by rw [m1]; simp)]
  simp only
  rw [hL']
  unfold moduleT
  simp only
  rw [A.want (s := ps0) (Nat.zero_le _) kModule, A.name w3, A.cur w3, w2, ei, b2, d1]
  simp only
  rw [if_neg (by rw [d2]; simp)]

end Go.Proofs.YtfcfbdemfbkgmaaDoor
