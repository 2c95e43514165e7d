/- append to own rows of whatever elements, in regions that draw their order. Numbers and types by name. -/
import Derived.Test.YthcdkggkoanjpaaGreatDoorSra
import Derived.Test.YthcdkggkoanjpaaGreatDoorBel
/- Between two commits of StoreKeeps, and behind them. Numbers and types by name. -/
namespace Go.Proofs.YthcdkggkoanjpaaGreatDoor
open Go.RowKit Go.Lib
set_option maxRecDepth 100000
def KeepsAt (C : SP) (w0 wr : World) (base b x : Nat) (most : Int) (k : Nat) (sv : Value) (sq : Nat) (un : Bool) (mv : Value) (mq : Nat) : Prop :=
  ∃ M n s L S B O t F, PS (k + 1) M n s L S B O t ∧ Sess C w0 wr base b x M n s L most F ∧ PRow wr F sv sq L ∧ (t ≠ [] → un = true) ∧ (un = true → mild O ∧ PRow wr F mv mq (applyP L O))
theorem KeepsAt.new {C : SP} {I : SI} (K : StK C I) {w0 w w' : World} {base b x : Nat} {most : Int} {k : Nat} {sv : Value} {sq : Nat} {un : Bool} {mv : Value} {mq : Nat} (h : KeepsAt C w0 w base b x most k sv sq un mv mq) (t : Turn [] w w') : KeepsAt C w0 w' base b x most k sv sq un mv mq := by
  obtain ⟨M, n, s, L, S, B, O, t1, F, hps, hse, hrow, hu, hm⟩ := h
  exact ⟨M, n, s, L, S, B, O, t1, F, hps, hse.new K t, hrow.new t, hu, fun h => ⟨(hm h).1, (hm h).2.new t⟩⟩
theorem KeepsAt.grow {C : SP} {w0 w : World} {base b x : Nat} {most : Int} {k : Nat} {sv : Value} {sq : Nat} {un : Bool} {mv : Value} {mq : Nat} (h : KeepsAt C w0 w base b x most k sv sq un mv mq) : Grow w0 w := by
  obtain ⟨M, n, s, L, S, B, O, t1, F, hps, hse, _⟩ := h
  exact hse.2.1
theorem keeps_all {C : SP} {I : SI} (K : StK C I) {w0 w : World} {base b x : Nat} {most : Int} {k : Nat} {sv : Value} {sq : Nat} {un : Bool} {mv : Value} {mq : Nat} (h : KeepsAt C w0 w base b x most k sv sq un mv mq) (hk : k ≤ 80) :
    Calls Tryz.prog 26 #[theSt x] w fun e w' => ∃ ao q c, e = .returned (.slice ao q c) ∧ Calls Tryz.prog 25 #[.slice ao q c, sv] w' fun e w'' => e = .returned (.bool true) ∧ KeepsAt C w0 w'' base b x most k sv sq un mv mq := by
  have hh := h
  obtain ⟨M, n, s, L, S, B, O, t1, F, hps, hse, hrow, hu, hm⟩ := h
  refine (sess_all K hse (hps.ml.slim (by omega))).mono ?_
  rintro e w' ⟨ao, q, c, rfl, hp, t⟩
  refine ⟨ao, q, c, rfl, (pairs_at hp (hrow.new t).1 true (by simp)).mono ?_⟩
  rintro e w'' ⟨rfl, t'⟩
  exact ⟨rfl, (hh.new K t).new K t'⟩
theorem keeps_commit {C : SP} {I : SI} (K : StK C I) {w0 w : World} {base b x : Nat} {most : Int} {k : Nat} {sv : Value} {sq : Nat} {un : Bool} {mv : Value} {mq : Nat} (h : KeepsAt C w0 w base b x most k sv sq un mv mq) (hk : k + 1 ≤ 80) (ht : Tab w0) {X : List Opm} {vo : Value} (ho : Opr w0 vo X.length X) (hm : mild X) :
    ∃ L : List Prm, L.length ≤ 60 * (k + 1) ∧ Calls Tryz.prog 23 #[theSt x, vo] w (Left fun k4 w' => Grow w0 w' ∧
      (k4 = 0 → Prr w' sv sq L ∧ ∀ w'' ao q c, OwnP w'' w'.heap.size (.slice ao q c) (applyP L X) → q = (applyP L X).length → Below w'.heap.size w' w'' → KeepsAt C w0 w'' base b x most (k + 1) (.slice ao q c) q false mv mq) ∧
      (k4 ≠ 0 → k4 = 8 ∨ okOps X = false → KeepsAt C w0 w' base b x most (k + 1) sv sq un mv mq) ∧
      (k4 ≠ 0 → k4 ≠ 8 → okOps X = true → Prr w' sv sq L ∧ ∀ w'' ao q c, OwnP w'' w'.heap.size (.slice ao q c) (applyP L X) → q = (applyP L X).length → Below w'.heap.size w' w'' → KeepsAt C w0 w'' base b x most (k + 1) sv sq true (.slice ao q c) q)) := by
  obtain ⟨M, n, s, L, S, B, O, t1, F, hps, hse, hrow, hu, hmm⟩ := h
  refine ⟨L, hps.ml.len, (sess_commit K hse ht (hps.sfit hk hm) (vo := vo) ho (by have := hm.2; omega)).mono ?_⟩
  rintro e w' ⟨k4, rfl, hk4, F4, hs4, f4, t4⟩
  obtain ⟨p1, p2⟩ := ps_commit hps hk hm most
  have hrow4 := hrow.step t4 f4
  have hbig : bulkP (applyP L X) ≤ 650000 := by have := (hps.ml.apply hm.1 hm.2).bulk; omega
  refine ⟨k4, rfl, hs4.2.1, fun h0 => ⟨hrow4.1, fun w'' ao q c ho5 hq5 hb5 => ?_⟩, fun h0 h8 => ?_, fun h0 h8 hok => ⟨hrow4.1, fun w'' ao q c ho5 hq5 hb5 => ?_⟩⟩
  · obtain ⟨S', B', k1, k2⟩ := p1 (hk4.symm.trans h0)
    rw [k2] at hs4
    obtain ⟨z1, z2⟩ := sure_next K hs4 ho5 hq5 hbig hb5
    exact ⟨_, _, _, _, S', B', O, [], F4, k1, z1, z2, fun h => absurd rfl h, fun h => by cases h⟩
  · obtain ⟨q1, _, q3⟩ := p2 (by rw [← hk4]; exact h0)
    rw [q1] at hs4
    exact ⟨_, _, _, L, S, B, O, t1, F4, q3 (by rw [← hk4]; exact h8), hs4, hrow4, hu, fun h => ⟨(hmm h).1, (hmm h).2.step t4 f4⟩⟩
  · obtain ⟨q1, q2, _⟩ := p2 (by rw [← hk4]; exact h0)
    rw [q1] at hs4
    obtain ⟨t', k1⟩ := q2 (by rw [← hk4]; exact h8) hok
    obtain ⟨z1, z2⟩ := sure_next K hs4 ho5 hq5 hbig hb5
    exact ⟨_, _, _, L, S, B, X, t', F4, k1, z1, hrow4.new (tb9 hb5), fun _ => rfl, fun _ => ⟨hm, z2⟩⟩
def KeepsD (w0 w : World) (base b : Nat) (k : Nat) (sv : Value) (sq : Nat) (un : Bool) (mv : Value) (mq : Nat) : Prop :=
  ∃ M S B O t F, PD k M S B O t ∧ Still8 M ∧ Meas k (applyAll S B) ∧ SesD w0 w base b M F ∧ PRow w F sv sq (applyAll S B) ∧ (t ≠ [] → un = true) ∧ (un = true → mild O ∧ PRow w F mv mq (applyP (applyAll S B) O))
theorem keeps_restart {C : SP} {I : SI} (K : StK C I) {w0 w : World} {base b x : Nat} {most : Int} {k : Nat} {sv : Value} {sq : Nat} {un : Bool} {mv : Value} {mq : Nat} (h : KeepsAt C w0 w base b x most k sv sq un mv mq) (hk : k ≤ 60) :
    Calls Tryz.prog 18 #[theDisk b, .agg #[.int .i64 100000, .slice none 0 0, .int .i64 0, .bool false, .slice none 0 0]] w fun e w' => e = .returned (.tuple #[]) ∧ KeepsD w0 w' base b (k + 2) sv sq un mv mq := by
  obtain ⟨M, n, s, L, S, B, O, t1, F, hps, hse, hrow, hu, hmm⟩ := h
  refine (sess_restart K hse (well_limW room10 hps.well (by omega)) 100000 0 false).mono ?_
  rintro e w' ⟨rfl, Fi, _, _, F', hd, f, t, _⟩
  obtain ⟨t', p3, ht'⟩ := pd_restart hps.pd 100000 0 false [] [] (by decide) (by simp) (by simp)
  have hL := hps.sk.L
  refine ⟨rfl, _, S, B, O, t', F', p3, still_restart _ _, by rw [← hL]; exact hps.ml.more (by omega), hd, by rw [← hL]; exact hrow.step t f, fun h => ?_, fun h => ⟨(hmm h).1, by rw [← hL]; exact (hmm h).2.step t f⟩⟩
  refine hu fun h0 => h (ht' h0)
def KeepsT (I : SI) (w0 w : World) (base b y : Nat) (k : Nat) (sv : Value) (sq : Nat) (un : Bool) (mv : Value) (mq : Nat) : Prop :=
  ∃ M n L2 L S B O F Fi, PS k M n false L2 S B O [] ∧ Still8 M ∧ SesD w0 w base b M F ∧ I w y L2 Fi ∧ (∀ q ∈ F, q ∉ Fi) ∧ PRow w F sv sq L ∧ (L2 = L ∨ (un = true ∧ PRow w F mv mq L2))
theorem keeps_open {C : SP} {I : SI} (K : StK C I) {w0 w : World} {base b : Nat} {k : Nat} {sv : Value} {sq : Nat} {un : Bool} {mv : Value} {mq : Nat} (h : KeepsD w0 w base b k sv sq un mv mq) (hk : k ≤ 45) (ht : Tab w0) :
    Calls Tryz.prog 15 #[theDisk b, .int .i64 100] w fun e w' => ∃ y, e = .returned (.tuple #[theSt y, .int .i64 0]) ∧ KeepsT I w0 w' base b y (k + 1) sv sq un mv mq := by
  obtain ⟨M, S, B, O, t1, F, hp, hst, hme, hd, hrow, hu, hmm⟩ := h
  obtain ⟨c1, c2, _⟩ := calm_open hp.dk hst
  obtain ⟨_, g1⟩ := pd_open hp hme (fun h => by
    rw [applyAll_snoc]
    exact hme.apply (hmm (hu h)).1.1 (hmm (hu h)).1.2)
  obtain ⟨_, m, hm, k1⟩ := g1 c1
  refine (sess_open K 100 hd ht (hp.ofit (by omega) (by have := hp.ms.bulk; omega)) c1).mono ?_
  rintro e w' ⟨y, rfl, F', hs, f, t⟩
  obtain ⟨Fd, Fi, h1, h2, h3, h4⟩ := hs.parts K
  have f' : ∀ q ∈ Fd, q ∈ F ∨ w.heap.size ≤ q := fun q hq => f q (h3 q hq).1
  refine ⟨y, rfl, _, _, _, applyAll S B, S, m, O, Fd, Fi, k1, c2, h1, h2, fun q hq => (h3 q hq).2, hrow.step t f', ?_⟩
  rcases hm with rfl | ⟨ht1, rfl⟩
  · exact .inl k1.sk.L
  · refine .inr ⟨hu ht1, ?_⟩
    rw [k1.sk.L, applyAll_snoc]
    exact (hmm (hu ht1)).2.step t f'
theorem keeps_twice {C : SP} {I : SI} (K : StK C I) {w0 w : World} {base b y : Nat} {k : Nat} {sv : Value} {sq : Nat} {un : Bool} {mv : Value} {mq : Nat} (h : KeepsT I w0 w base b y k sv sq un mv mq) (hk : k ≤ 45) (ht : Tab w0) :
    Calls Tryz.prog 15 #[theDisk b, .int .i64 100] w fun e w' => ∃ z L2 L Fi Fj, e = .returned (.tuple #[theSt z, .int .i64 0]) ∧ I w' y L2 Fi ∧ I w' z L2 Fj ∧ Slim L2 ∧ Grow w0 w' ∧ Prr w' sv sq L ∧ (L2 = L ∨ (un = true ∧ Prr w' mv mq L2)) := by
  obtain ⟨M, n, L2, L, S, B, O, F, Fi, hps, hst, hd, hi, hdis, hrow, hor⟩ := h
  obtain ⟨c1, _, _, c4, _⟩ := calm_new hps.pd (by rw [← hps.sk.L]; exact hps.ml) hst
  refine (sess_open K 100 hd ht (hps.pd.ofit (by omega) (by have := hps.ms.bulk; omega)) c1).mono ?_
  rintro e w' ⟨z, rfl, F', hs, f, t⟩
  rw [c4, ← hps.sk.L] at hs
  obtain ⟨Fd, Fj, _, h2, _, _⟩ := hs.parts K
  refine ⟨z, L2, L, Fi, Fj, rfl, K.ikeep hi t (fun q hq hm => hdis q hm hq), h2, hps.ml.slim (by omega), hs.2.1, (hrow.step t f).1, hor.imp id fun h => ⟨h.1, (h.2.step t f).1⟩⟩
theorem keeps_first {M : MD} (cap cc : Int) (dn : Bool) (zs ks : List Int) (hM : M = MD.new cap cc dn zs ks) (hc : cap ≤ 9223372036854775807) (h3 : 3 ≤ cc) (hz3 : ∀ z ∈ zs, 3 ≤ z) (hz : zs.length ≤ 200) (hk : ks.length ≤ 200) :
    OFit 440000 2000 10 M ∧ (openS M).e = 0 ∧ (openS M).L = [] ∧ ∃ S B O, PS 1 (openS M).M (openS M).n false [] S B O [] := by
  have p0 : PD 0 M [] [] [] [] := by rw [hM]; exact pd_new _ _ _ _ _ hc hz hk
  have ne : ∀ j : Int, j < 3 → zs.contains j = false := fun j hj => by
    cases hc : zs.contains j with
    | false => rfl
    | true =>
      have := hz3 j (by simpa using hc)
      omega
  have hO : openP M = ⟨0, { M with n := M.n + 1 + 1, fs := [(logK, [], 0)] }, 0, []⟩ := opens_new (by rw [hM]; rfl) (by rw [hM]; rfl) (by rw [hM]; show (0 : Int) + 1 ≠ cc; omega) (by rw [hM]; exact ne _ (by show (0 : Int) + 1 < 3; decide)) (by rw [hM]; show (0 : Int) + 1 + 1 ≠ cc; omega) (by rw [hM]; exact ne _ (by show (0 : Int) + 1 + 1 < 3; decide))
  have hl := (dk_load p0.dk (by rw [hM]; rfl)).1
  have he : (openS M).e = 0 := by rw [openS_ok hl (by rw [hO])]
  obtain ⟨_, g1⟩ := pd_open p0 Meas.nil (fun h => absurd rfl h)
  obtain ⟨_, m, hm, k1⟩ := g1 he
  have hmn : m = [] := by
    rcases hm with h | ⟨h, _⟩
    · exact h
    · exact absurd rfl h
  subst hmn
  have hL : (openS M).L = [] := k1.sk.L
  rw [hL] at k1
  exact ⟨p0.ofit (by decide) (by decide), he, hL, [], [], [], k1⟩
end Go.Proofs.YthcdkggkoanjpaaGreatDoor

namespace Go.Proofs.YthcdkggkoanjpaaGreatDoor
open Go.RowKit Go.Lib
theorem elemInts : Elem 29 3 (.int .i64 0) 1 8 := ⟨Tryz.underlying29, by kernel_rfl, by decide, by decide⟩
theorem mvRun_append_gen {sl el : TypeId} {z : Value} {size bytes : Nat} (E : Elem sl el z size bytes) {ops : Array Oper} {o : Oper} {a : Act} {w : World} {K : Act → World → Prop} (hgd : o.guard = none) (s x : Operand)
    (ho : o.op = .call { callee := .builtin .append, args := #[s, x], argTypes := #[sl, sl] })
    (base : Nat) (v : Value) (n : Nat) (xs : List Value) (hs : a.eval s = v) (hown : w.ownsRow base el size v n xs) (vb : Value) (m : Nat) (news : List Value) (hx : a.eval x = vb) (hr : Cells w vb size m news) (h1 : ∀ u ∈ news, u.oneCell' = true)
    (p : Nat) (hp : p = n + m) (h63 : Hid (p ≤ 1000000)) (hby : bytes ≤ 1000) (hbase : base ≤ w.heap.size)
    (h : ∀ ao c w', w'.ownsRow base el size (.slice ao p c) p (xs ++ news) → w.grownBy w' v.ownBlock → ((Value.slice ao p c).ownBlock = v.ownBlock ∨ (Value.slice ao p c).ownBlock = some w.heap.size) → K (a.put o.dst (.slice ao p c)) w') : mvRun Tryz.prog ops o K a w := by
  subst hp
  have hb := h63.out
  obtain ⟨ao, c, w', hr', h2, h3, h4⟩ := run_append_gen E o.type base v n xs w hown vb m news hr h1 (by unfold maxLen; omega) (Nat.le_trans (Nat.mul_le_mul hb hby) (by decide)) hbase
  have hw : Region.wanted o (yielded ops a.tmps) = true := by simp [Region.wanted, hgd]
  unfold mvRun
  rw [if_pos hw]
  unfold execOp
  simp only [ho, resolve, invoke, builtin, Sem.run_bind, Sem.run_pure, Result.andThen_ok, List.map_toArray, List.map_cons, List.map_nil, hs, hx, hr', mvUpon]
  exact h ao c w' h2 h3 h4
end Go.Proofs.YthcdkggkoanjpaaGreatDoor
