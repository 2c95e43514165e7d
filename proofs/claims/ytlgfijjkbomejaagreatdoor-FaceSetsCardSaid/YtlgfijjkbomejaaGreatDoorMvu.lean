/- A region that draws its order, each operation of which yields one and the same value in every later world, though calls may make memory: ONE walk, in any order that fits. Numbers and types by name. -/
import Derived.Test.YtlgfijjkbomejaaGreatDoorProg
import Derived.Shelf.Spec.SearchS
import Derived.Shelf.Spec.SlicesInsertGrow
import Derived.Ground.Names2Prog
import Derived.Test.YtlgfijjkbomejaaGreatDoorFcb
import Derived.Test.YtlgfijjkbomejaaGreatDoorCel
import Derived.Test.YtlgfijjkbomejaaGreatDoorMvg
import Derived.Test.YtlgfijjkbomejaaGreatDoorBel
/-
  DERIVED: THE SHELF's CONTRACTS AT THIS DUMP, IN PLAIN WORDS (tools/lay-plain.mjs out of 'YtlgfijjkbomejaaGreatDoorIns.lean', which tools/lay-shelf.mjs wrote): THE SAME DECLARATIONS UNDER THE SAME NAMES: 'import', 'namespace', 'open', 'def', 'theorem' AND NOTHING ELSE: no command of the shelf's: FOR A HAND-IN. Each laying: the table of numbers ('.._ren') and one theorem, a field a fact of the dump's own or the kernel's comparison; each contract: ONE APPLICATION.
-/
namespace Go.Proofs
open Go.Shelf
def Tryz.laysBS_ren : Go.Shelf.Ren := ⟨fun | 26 => 103 | 33 => 133 | 34 => 134 | 38 => 78 | n => n, fun | 24 => 36 | 9 => 9 | 3 => 3 | 4 => 4 | 40 => 131 | 0 => 0 | n => n, fun | n => n⟩
theorem Tryz.laysBS : Go.Proofs.Lays2.n26 Tryz.prog Tryz.laysBS_ren := {
  mixed := by kernel_rfl
  f26 := Tryz.func103.trans (congrArg some (by kernel_rfl))
  f33 := Tryz.func133.trans (congrArg some (by kernel_rfl))
  f34 := Tryz.func134.trans (congrArg some (by kernel_rfl))
  f38 := Tryz.func78.trans (congrArg some (by kernel_rfl))
  t0 := Tryz.underlying0
  a0 := Tryz.isAgg0
  z0 := Tryz.sizeOf0
  v0 := Tryz.zeroValue0
  t3 := Tryz.underlying3
  a3 := Tryz.isAgg3
  z3 := Tryz.sizeOf3
  v3 := Tryz.zeroValue3
  t4 := Tryz.underlying4
  a4 := Tryz.isAgg4
  z4 := Tryz.sizeOf4
  v4 := Tryz.zeroValue4
  t9 := Tryz.underlying9
  a9 := Tryz.isAgg9
  z9 := Tryz.sizeOf9
  v9 := Tryz.zeroValue9
  t24 := Tryz.underlying36
  a24 := Tryz.isAgg36
  z24 := Tryz.sizeOf36
  v24 := Tryz.zeroValue36
  t40 := Tryz.underlying131
  a40 := Tryz.isAgg131
  z40 := Tryz.sizeOf131
  v40 := Tryz.zeroValue131 }
end Go.Proofs

/- slices.BinarySearch and slices.Insert at lists of texts; the code's with. Numbers and types by name. -/
namespace Go.Proofs.YtlgfijjkbomejaaGreatDoor
open Go.RowKit Go.Lib Go.Sort
set_option maxRecDepth 100000

def owL (xs : List Value) (o : Nat) : List Value → List Value
  | [] => xs
  | v :: r => owL (xs.set o v) (o + 1) r
theorem owL_length : ∀ (vs xs : List Value) (o : Nat), (owL xs o vs).length = xs.length
  | [], _, _ => rfl
  | v :: r, xs, o => by unfold owL; rw [owL_length r, List.length_set]
theorem owL_get : ∀ (vs xs : List Value) (o k : Nat), o + vs.length ≤ xs.length → (owL xs o vs)[k]? = if o ≤ k ∧ k < o + vs.length then vs[k - o]? else xs[k]?
  | [], xs, o, k, _ => by rw [if_neg (by simp)]; rfl
  | v :: r, xs, o, k, h => by
    simp only [List.length_cons] at h
    unfold owL
    rw [owL_get r _ _ _ (by rw [List.length_set]; omega)]
    by_cases h1 : o + 1 ≤ k ∧ k < o + 1 + r.length
    · rw [if_pos h1, if_pos (by simp only [List.length_cons]; omega), show k - o = (k - (o + 1)) + 1 by omega, List.getElem?_cons_succ]
    · rw [if_neg h1]
      by_cases h2 : k = o
      · subst h2
        rw [List.getElem?_set_self (by omega), if_pos (by simp), Nat.sub_self]
        rfl
      · rw [List.getElem?_set_ne (by omega), if_neg (by simp only [List.length_cons]; omega)]
theorem heap_setCellsL {b : Nat} {t : TypeId} {fr : Nat × Nat} : ∀ (vs : List Value) (o : Nat) (w : World) (cur : Array Value), w.heap[b]? = some (.cells cur t fr) → ∃ cur' : Array Value, (w.setCells b o vs).heap[b]? = some (.cells cur' t fr) ∧ cur'.toList = owL cur.toList o vs
  | [], o, w, cur, h => ⟨cur, h, rfl⟩
  | v :: r, o, w, cur, h => by
    obtain ⟨cur', h1, h2⟩ := heap_setCellsL r (o + 1) _ _ (heap_set h o v)
    refine ⟨cur', h1, ?_⟩
    rw [h2, Array.toList_setIfInBounds]
    rfl
theorem below_setsL {B b : Nat} (hb : B ≤ b) {a : World} : ∀ (vs : List Value) (o : Nat) (w : World), Below B a w → Below B a (w.setCells b o vs)
  | [], _, _, h => h
  | v :: r, o, _, h => below_setsL hb r (o + 1) _ (below_set h hb o v)

theorem chg_setsL {F : List Nat} {b : Nat} {a : World} (hb : b ∈ F ∨ a.heap.size ≤ b) : ∀ (vs : List Value) (o : Nat) (w : World), Chg F a w → Chg F a (w.setCells b o vs)
  | [], _, _, h => h
  | v :: r, o, _, h => chg_setsL hb r (o + 1) _ (h.set hb o v)
theorem tgt_get {xs : List Value} {K : Nat} {x : Value} (hK : K ≤ xs.length) (k : Nat) : (xs.take K ++ x :: xs.drop K)[k]? = if k < K then xs[k]? else if k = K then some x else xs[k - 1]? := by
  by_cases h1 : k < K
  · rw [if_pos h1, List.getElem?_append_left (by simp; omega), List.getElem?_take, if_pos h1]
  · rw [if_neg h1, List.getElem?_append_right (by simp; omega)]
    have e : (xs.take K).length = K := by simp; omega
    rw [e]
    by_cases h2 : k = K
    · subst h2; simp
    · rw [if_neg h2, show k - K = (k - K - 1) + 1 by omega, List.getElem?_cons_succ, List.getElem?_drop]
      congr 1
      omega
theorem tgt_take {xs ys : List Value} {K : Nat} {x : Value} (hK : K ≤ xs.length) (h : ∀ k, k < xs.length + 1 → ys[k]? = if k < K then xs[k]? else if k = K then some x else xs[k - 1]?) : ys.take (xs.length + 1) = xs.take K ++ x :: xs.drop K := by
  apply List.ext_getElem?
  intro k
  rw [tgt_get hK]
  by_cases hk : k < xs.length + 1
  · rw [List.getElem?_take, if_pos hk, h k hk]
  · rw [List.getElem?_take, if_neg hk, if_neg (by omega), if_neg (by omega), List.getElem?_eq_none (by omega)]

theorem rise_from {L : List (List UInt8)} (h : RiseT L) {K : Nat} {s : List UInt8} (hhi : ∀ x, L[K]? = some x → ¬ x < s) : ∀ t y, K ≤ t → L[t]? = some y → ¬ y < s := by
  intro t y ht hy
  rcases Nat.eq_or_lt_of_le ht with e | hlt
  · subst e
    exact hhi y hy
  · obtain ⟨h3, h4⟩ := List.getElem?_eq_some_iff.1 hy
    have h5 := List.pairwise_iff_getElem.1 h K t (by omega) h3 hlt
    rw [h4] at h5
    exact fun h6 => hhi _ (List.getElem?_eq_getElem (by omega)) (List.lt_trans h5 h6)

def seaS (L : List (List UInt8)) (s : List UInt8) (t : Nat) : ByteArray := match L[t]? with | some y => tx y | none => tx s
/-- The search in a rising list. -/
theorem sea_str (base : Nat) (ao : Option Addr) (n c K : Nat) (L : List (List UInt8)) (s : List UInt8) (w : World) (h : OwnS w base (.slice ao n c) n L) (hn : n ≤ 100000) (hR : RiseT L) (hlow : ∀ t, t < K → ∃ x, L[t]? = some x ∧ x < s) (hhi : ∀ x, L[K]? = some x → ¬ x < s) (hK : K ≤ n) :
    Calls Tryz.prog 103 #[.slice ao n c, .string (tx s)] w fun e w' => e = .returned (.tuple #[.int .i64 (K : Int), .bool (decide (L[K]? = some s))]) ∧ ∃ q, w' = w.drewN q := by
  by_cases h0 : n = 0
  · subst h0
    obtain rfl : K = 0 := by omega
    obtain rfl : L = [] := List.eq_nil_of_length_eq_zero h.1.symm
    refine Calls.mono (Any2.slices_BinarySearch_string_empty Tryz.laysBS ao c (tx s) w) ?_
    rintro e w' ⟨rfl, rfl⟩
    exact ⟨by simp, 0, rfl⟩
  · obtain ⟨g, rfl, _, _⟩ := h.block (by omega)
    have hnL := h.1
    have P := Any2.slices_BinarySearch_string Tryz.laysBS g 0 n c (seaS L s) (tx s) w (by omega) (fun j hj => by
      have hj2 : L[j]? = some (L[j]'(by omega)) := List.getElem?_eq_getElem (by omega)
      rw [Nat.zero_add]
      unfold seaS
      rw [hj2]
      exact (h.cell hj2).1)
    have hgo : Lib.bsGo (fun t => Op.bytesLess (seaS L s t).toList (tx s).toList) n 0 n = K := by
      refine bsGo_spec _ K (fun t ht => ?_) (fun t ht => ?_) n 0 n (by omega) (by omega) hK
      · obtain ⟨x, hx, hlt⟩ := hlow t ht
        unfold seaS
        rw [hx, tx_list, tx_list, bytesLess_eq]
        simpa using hlt
      · unfold seaS
        cases hy : L[t]? with
        | none =>
          simp only
          rw [tx_list, bytesLess_eq]
          simp [lt_irr8 s]
        | some y =>
          simp only
          rw [tx_list, tx_list, bytesLess_eq]
          simpa using rise_from hR hhi t y ht hy
    have hdec : decide (K < n ∧ seaS L s K = tx s) = decide (L[K]? = some s) := by
      rw [decide_eq_decide]
      unfold seaS
      by_cases hKn : K < n
      · have hj2 : L[K]? = some (L[K]'(by omega)) := List.getElem?_eq_getElem (by omega)
        rw [hj2]
        simp only [Option.some.injEq]
        constructor
        · rintro ⟨_, e⟩
          have := congrArg ByteArray.toList e
          rw [tx_list, tx_list] at this
          exact this
        · intro e
          exact ⟨hKn, by rw [e]⟩
      · rw [List.getElem?_eq_none (by omega)]
        simp [hKn]
    refine Calls.mono P ?_
    rintro e w' ⟨rfl, hq⟩
    rw [hgo, hdec]
    exact ⟨rfl, hq⟩

end Go.Proofs.YtlgfijjkbomejaaGreatDoor

/- An append within a region that draws its order, walked once. Numbers and types by name. -/
namespace Go.Proofs.YtlgfijjkbomejaaGreatDoor
open Go.RowKit Go.Lib
set_option maxRecDepth 100000

theorem mv_append_gen {sl el : TypeId} {z : Value} {size bytes : Nat} (E : Elem sl el z size bytes) {ops : Array Oper} {o : Oper} {a : Act} {w : World} {K : Act → World → Prop} (hgd : o.guard = none) (s x : Operand)
    (ho : o.op = .call { callee := .builtin .append, args := #[s, x], argTypes := #[sl, sl] })
    (base : Nat) (v : Value) (n : Nat) (xs : List Value) (hs : a.eval s = v) (hown : w.ownsRow base el size v n xs) (vb : Value) (m : Nat) (news : List Value) (hx : a.eval x = vb) (hr : Cells w vb size m news) (h1 : ∀ u ∈ news, u.oneCell' = true)
    (p : Nat) (hp : p = n + m) (h63 : Hid (p ≤ 1000000)) (hby : bytes ≤ 1000) (hbase : base ≤ w.heap.size)
    (h : ∀ ao c w', w'.ownsRow base el size (.slice ao p c) p (xs ++ news) → Below base w w' → w.grownBy w' v.ownBlock → ((Value.slice ao p c).ownBlock = v.ownBlock ∨ (Value.slice ao p c).ownBlock = some w.heap.size) → K (a.put o.dst (.slice ao p c)) w') :
    mvRun Tryz.prog ops o K a w := by
  subst hp
  have hb := h63.out
  have hw : Region.wanted o (yielded ops a.tmps) = true := by simp [Region.wanted, hgd]
  unfold mvRun
  rw [if_pos hw]
  obtain ⟨ao, c, w', hr', h2, h3, h4⟩ := run_append_gen E o.type base v n xs w hown vb m news hr h1 (by unfold maxLen; omega) (Nat.le_trans (Nat.mul_le_mul hb hby) (by decide)) hbase
  unfold execOp
  simp only [ho, resolve, invoke, builtin, Sem.run_bind, Sem.run_pure, Result.andThen_ok, List.map_toArray, List.map_cons, List.map_nil, hs, hx, hr']
  exact h ao c w' h2 (below_grown_own hown h3 hbase) h3 h4

end Go.Proofs.YtlgfijjkbomejaaGreatDoor

namespace Go.Proofs.YtlgfijjkbomejaaGreatDoor
open Go.RowKit Go.Lib
section
variable {P : Program} {md : Region.Mode} {ops : Array Oper}

/-- The operation yields v at w', and leaves a later world. -/
def GYields (P : Program) (ops : Array Oper) (w' : World) (o : Oper) (v : Value) (a : Act) : Prop :=
  (Region.wanted o (yielded ops a.tmps) = true ∧ ((execOp a.eval o).run P w' = .ok (.value v) w' ∨ ((execOp a.eval o).run P w' = .ok .skip w' ∧ v = undef) ∨ ∃ f args, (execOp a.eval o).run P w' = .ok (.enter f args) w' ∧ Calls P f args w' fun e w3 => e = .returned v ∧ Grow w' w3)) ∨ (Region.wanted o (yielded ops a.tmps) = false ∧ v = undef)
def GUps (P : Program) (ops : Array Oper) (w : World) (o : Oper) (v : Value) (a : Act) : Prop := ∀ w', Grow w w' → GYields P ops w' o v a

theorem GUps.of_same {w : World} {o : Oper} {v : Value} {a b : Act} (h : GUps P ops w o v a) (h1 : execOp b.eval o = execOp a.eval o) (h2 : Region.wanted o (yielded ops b.tmps) = Region.wanted o (yielded ops a.tmps)) : GUps P ops w o v b := fun w' hg => by
  have := h w' hg
  unfold GYields at *
  rw [h1, h2]
  exact this

theorem GYields.mvOp {i : Nat} {o : Oper} {v : Value} {a : Act} {w : World} (hi : ops[i]? = some o) (hy : GYields P ops w o v a) {K : Act → World → Prop} (h : ∀ w', Grow w w' → K (a.put o.dst v) w') : mvOp P ops i K a w := by
  unfold Proofs.YtlgfijjkbomejaaGreatDoor.mvOp mvRun
  simp only [hi]
  rcases hy with ⟨hw, hv | ⟨hv, rfl⟩ | ⟨f, args, hv, hc⟩⟩ | ⟨hw, rfl⟩
  · simp only [hw, if_true, hv, mvUpon]; exact h _ (Grow.refl w)
  · simp only [hw, if_true, hv, mvUpon]; exact h _ (Grow.refl w)
  · simp only [hw, if_true, hv, mvUpon]; exact hc.mono fun e w'' ⟨he, hg⟩ => ⟨v, he, h _ hg⟩
  · simp only [hw, Bool.false_eq_true, if_false]; exact h _ (Grow.refl w)

/-- Every order; each operation's value is one in every world later than w. -/
def wpU (P : Program) (md : Region.Mode) (ops : Array Oper) (Q : Act → World → Prop) (w : World) : Nat → Array Bool → Act → Prop
  | 0, listed, a => Region.ready md ops listed = [] ∧ ∀ w', Grow w w' → Q a w'
  | fuel + 1, listed, a =>
    (Region.ready md ops listed = [] → ∀ w', Grow w w' → Q a w') ∧
    ∀ i ∈ Region.ready md ops listed, ∃ o v, ops[i]? = some o ∧ GUps P ops w o v a ∧ wpU P md ops Q w fuel (listed.setIfInBounds i true) (a.put o.dst v)

theorem wpAny_of_U {w : World} {Q : Act → World → Prop} {Q' : Exit → Act → World → Prop} (hQ : ∀ a w, Q a w → Q' .normal a w) : ∀ (fuel : Nat) (listed : Array Bool) (a : Act) (w' : World), Grow w w' →
    wpU P md ops Q w fuel listed a → wpAny P md ops Q' fuel listed a w'
  | 0, _, _, _, hg, h => ⟨h.1, hQ _ _ (h.2 _ hg)⟩
  | fuel + 1, _, _, w', hg, h => ⟨fun h0 => hQ _ _ (h.1 h0 _ hg), fun i hi => by
      obtain ⟨o, v, ho, hu, hk⟩ := h.2 i hi
      exact wpOp_of_mvOp (GYields.mvOp ho (hu w' hg) fun w2 hg2 => wpAny_of_U hQ fuel _ _ w2 (hg.trans hg2) hk)⟩

theorem wpU_first {w : World} {Q : Act → World → Prop} {i : Nat} {oi : Oper} {v : Value} (hi : ops[i]? = some oi) (hsel : ∀ (j : Nat) (o : Oper) cs b, ops[j]? = some o → o.op ≠ .select cs b) :
    ∀ (fuel : Nat) (listed : Array Bool) (a : Act),
      (∀ j oj, ops[j]? = some oj → j ≠ i → listed.getD j true = false → (∀ e ∈ oj.after, Region.binds md e = true → e.on ≠ i) → oi.apart ops oj = true) →
      i ∈ Region.ready md ops listed → GUps P ops w oi v a →
      wpU P md ops Q w fuel (listed.setIfInBounds i true) (a.put oi.dst v) → wpU P md ops Q w (fuel + 1) listed a := by
  intro fuel
  induction fuel with
  | zero =>
    intro listed a _ hr hy H
    refine ⟨fun h => (by rw [h] at hr; cases hr), fun j hj => ?_⟩
    by_cases hji : j = i
    · subst hji; exact ⟨oi, v, hi, hy, H⟩
    · have := ready_mono hj hji
      rw [H.1] at this
      cases this
  | succ fuel ih =>
    intro listed a hfree hr hy H
    refine ⟨fun h => (by rw [h] at hr; cases hr), fun j hj => ?_⟩
    by_cases hji : j = i
    · subst hji; exact ⟨oi, v, hi, hy, H⟩
    · obtain ⟨oj, u, hoj, hu, hk⟩ := H.2 j (ready_mono hj hji)
      obtain ⟨hjun, oj', hoj', hall⟩ := mem_ready.1 hj
      rw [hoj] at hoj'
      cases hoj'
      have hnot : ∀ e ∈ oj.after, Region.binds md e = true → e.on ≠ i := fun e he hb heq => by
        have h1 := hall e he hb
        have h0 := (mem_ready.1 hr).1
        rw [heq] at h1
        rcases Nat.lt_or_ge i listed.size with h' | h'
        · simp [h'] at h0 h1; rw [h0] at h1; cases h1
        · simp [Array.getElem?_eq_none h'] at h1
      have hap := hfree j oj hoj hji hjun hnot
      obtain ⟨h1, h2, h3⟩ := Oper.apart_spec hap
      have hsi : ∀ cs b, oi.op ≠ .select cs b := fun cs b => hsel i oi cs b hi
      have hsj : ∀ cs b, oj.op ≠ .select cs b := fun cs b => hsel j oj cs b hoj
      have hu' : GUps P ops w oj u a := hu.of_same (execOp_put oj hsj a oi.dst v h1).symm (wanted_put oj a oi.dst v h1).symm
      have hy' : GUps P ops w oi v (a.put oj.dst u) := hy.of_same (execOp_put oi hsi a oj.dst u h3) (wanted_put oi a oj.dst u h3)
      refine ⟨oj, u, hoj, hu', ih (listed.setIfInBounds j true) (a.put oj.dst u) (fun k ok hk' hki hun hno => ?_) (ready_mono hr (Ne.symm hji)) hy' ?_⟩
      · refine hfree k ok hk' hki ?_ hno
        by_cases hjk : j = k
        · subst hjk; exact hjun
        · rw [getD_set_ne true hjk] at hun; exact hun
      · rw [Array.setIfInBounds_comm _ _ hji, ← Act.put_comm a v u h2]
        exact hk

/-- One walk. -/
def wpLinU (P : Program) (ops : Array Oper) (Q : Act → World → Prop) (w : World) : List (Nat × Bool × Oper) → Act → Prop
  | [], a => ∀ w', Grow w w' → Q a w'
  | (_, _, o) :: r, a => ∃ v, GUps P ops w o v a ∧ wpLinU P ops Q w r (a.put o.dst v)

def mvBU (md : Region.Mode) (ops : Array Oper) : List (Nat × Bool × Oper) → Array Bool → Bool
  | [], listed => (Region.ready md ops listed).isEmpty
  | (k, _, _) :: r, listed => (Region.ready md ops listed).contains k && Region.free md ops listed k && mvBU md ops r (listed.setIfInBounds k true)

theorem wpU_of_lin {w : World} {Q : Act → World → Prop} (hs : Region.noSelect ops = true) : ∀ (l : List (Nat × Bool × Oper)) (listed : Array Bool) (a : Act), (∀ x ∈ l, ops[x.1]? = some x.2.2) →
    mvBU md ops l listed = true → wpLinU P ops Q w l a → wpU P md ops Q w l.length listed a
  | [], _, _, _, hB, h => ⟨by simpa [mvBU] using hB, h⟩
  | (k, b, o) :: r, listed, a, hat, hB, h => by
    simp only [mvBU, Bool.and_eq_true] at hB
    obtain ⟨v, hy, hK⟩ := h
    have h0 : ops[k]? = some o := hat (k, b, o) (List.mem_cons_self ..)
    exact wpU_first h0 (Region.noSelect_spec hs) r.length listed a (Region.free_spec h0 hB.1.2) (by simpa using hB.1.1) hy
      (wpU_of_lin hs r _ _ (fun x hx => hat x (by simp [hx])) hB.2 hK)

def mvOkU (ops : Array Oper) (items : List (Nat × Bool × Oper)) : Bool := Region.noSelect ops && items.length == ops.size && mvBU .any ops items (Array.replicate ops.size false)

theorem wp_region_mvu {id : Nat} {Q : Exit → Act → World → Prop} {a : Act} {w : World} {l : List Oper} (segs : List (Nat × Nat × Bool)) (hm : P.follows .mixedOrders = true) (hB : mvOkU l.toArray (mvAll segs l) = true)
    (h : wpLinU P l.toArray (fun a' w' => Q .normal a' w') w.drew (mvAll segs l) a) : (Code.region id l.toArray true).wp P Q a w := by
  simp only [mvOkU, Bool.and_eq_true, beq_iff_eq] at hB
  refine wp_region_any hm (wpAny_of_U (w := w.drew) (Q := fun a' w' => Q .normal a' w') (fun _ _ h => h) _ _ _ _ (Grow.refl _) ?_)
  have := wpU_of_lin (md := .any) hB.1.1 (mvAll segs l) (Array.replicate l.toArray.size false) a (mvAll_at l segs) hB.2 h
  rw [hB.1.2] at this
  exact this

/-- What one operation yields at w', and then K; calls may make memory. -/
def mvValU (P : Program) (ops : Array Oper) (o : Oper) (a : Act) (w' : World) (K : Value → Prop) : Prop :=
  if Region.wanted o (yielded ops a.tmps) then
    (match (execOp a.eval o).run P w' with
     | .ok (.value v) w'' => w'' = w' ∧ K v
     | .ok .skip w'' => w'' = w' ∧ K undef
     | .ok (.enter f args) w'' => w'' = w' ∧ ∃ v, Calls P f args w' (fun e w3 => e = .returned v ∧ Grow w' w3) ∧ K v
     | _ => False)
  else K undef

theorem wpLinU_nil {Q : Act → World → Prop} {a : Act} {w : World} (h : ∀ w', Grow w w' → Q a w') : wpLinU P ops Q w [] a := h

theorem wpLinU_step {Q : Act → World → Prop} {k : Nat} {b : Bool} {o : Oper} {r : List (Nat × Bool × Oper)} {a : Act} {w : World} (v : Value) (hv : ∀ w', Grow w w' → ∀ K : Value → Prop, K v → mvValU P ops o a w' K)
    (h : ∀ K : Act → Prop, (∀ a, wpLinU P ops Q w r a → K a) → K (a.put o.dst v)) : wpLinU P ops Q w ((k, b, o) :: r) a := by
  refine ⟨v, fun w' hg => ?_, h _ fun _ h => h⟩
  have := hv w' hg (fun u => u = v) rfl
  unfold mvValU at this
  unfold GYields
  by_cases hw : Region.wanted o (yielded ops a.tmps) = true
  · left
    rw [if_pos hw] at this
    refine ⟨hw, ?_⟩
    split at this
    · next heq => obtain ⟨rfl, rfl⟩ := this; exact .inl heq
    · next heq => obtain ⟨rfl, rfl⟩ := this; exact .inr (.inl ⟨heq, rfl⟩)
    · next heq => obtain ⟨rfl, u, hc, rfl⟩ := this; exact .inr (.inr ⟨_, _, heq, hc⟩)
    · exact this.elim
  · right
    rw [if_neg hw] at this
    exact ⟨by simpa using hw, this.symm⟩
end

end Go.Proofs.YtlgfijjkbomejaaGreatDoor
