/- Lists of pairs that came in. Numbers and types by name. -/
import Derived.Test.YthglbmnhlnpmkaaGreatCel
import Derived.Test.YthglbmnhlnpmkaaGreatBe4
import Derived.Deep.Fields
/- Lists of ops that are read. Numbers and types by name. -/
namespace Go.Proofs.YthglbmnhlnpmkaaGreat
open Go.RowKit Go.Lib

/-- An op: del, key, value. -/
structure Opm where
  del : Bool
  key : ByteArray
  val : ByteArray
  deriving DecidableEq

def ov (o : Opm) : List Value := [.bool o.del, .string o.key, .string o.val]
def ovs (L : List Opm) : List Value := L.flatMap ov
theorem ovs_length (L : List Opm) : (ovs L).length = L.length * 3 := by
  induction L with
  | nil => rfl
  | cons o L ih => simp only [ovs, List.flatMap_cons, List.length_append, List.length_cons] at *; rw [ih]; simp [ov]; omega
theorem ovs_at {L : List Opm} {k : Nat} {o : Opm} (h : L[k]? = some o) (j : Nat) (hj : j < 3) : (ovs L)[k * 3 + j]? = (ov o)[j]? := by
  induction L generalizing k with
  | nil => cases h
  | cons p L ih =>
    have e : ovs (p :: L) = ov p ++ ovs L := by simp [ovs]
    cases k with
    | zero =>
      simp only [List.getElem?_cons_zero, Option.some.injEq] at h
      subst h
      rw [e, Nat.zero_mul, Nat.zero_add, List.getElem?_append_left (by simp [ov]; omega)]
    | succ k =>
      rw [List.getElem?_cons_succ] at h
      rw [e, List.getElem?_append_right (by simp [ov]; omega), ← ih h]
      congr 1
      simp [ov]; omega

/-- A list of ops can be read; their texts are no longer than texts can be. -/
def Opr (w : World) (v : Value) (n : Nat) (L : List Opm) : Prop := n = L.length ∧ n ≤ maxLen ∧ Cells w v 3 n (ovs L) ∧ ∀ o ∈ L, o.key.size ≤ maxLen ∧ o.val.size ≤ maxLen

theorem Opr.shape {w : World} {v : Value} {n : Nat} {L : List Opm} (h : Opr w v n L) : ∃ ao c, v = .slice ao n c := by
  obtain ⟨_, _, ⟨ao, c, rfl, _⟩, _⟩ := h
  exact ⟨ao, c, rfl⟩
theorem Opr.later {w w' : World} {v : Value} {n : Nat} {L : List Opm} (h : Opr w v n L) (hg : Grow w w') : Opr w' v n L := ⟨h.1, h.2.1, h.2.2.1.later hg, h.2.2.2⟩
theorem Opr.nil (w : World) : Opr w (.slice none 0 0) 0 [] := ⟨rfl, Nat.zero_le _, ⟨none, 0, rfl, rfl, Nat.le_refl _, fun _ => ⟨rfl, rfl⟩, fun a h => by cases h⟩, fun o h => by cases h⟩

theorem Opr.at {w : World} {ao : Option Addr} {n c : Nat} {L : List Opm} (h : Opr w (.slice ao n c) n L) {k : Nat} (hk : k < n) :
    ∃ a o, ao = some a ∧ L[k]? = some o ∧ w.cell? (a.add (k * 3)) = some (.bool o.del) ∧ w.cell? ⟨(a.add (k * 3)).block, (a.add (k * 3)).off + 1, none⟩ = some (.string o.key) ∧ w.cell? ⟨(a.add (k * 3)).block, (a.add (k * 3)).off + 2, none⟩ = some (.string o.val) ∧ o.key.size ≤ maxLen ∧ o.val.size ≤ maxLen := by
  obtain ⟨h1, h2, ⟨ao', c', e, h0, hnc, hn, hc⟩, hs⟩ := h
  simp only [Value.slice.injEq] at e
  obtain ⟨rfl, _, rfl⟩ := e
  have hx : L[k]? = some (L[k]'(by omega)) := List.getElem?_eq_getElem (by omega)
  generalize L[k]'(by omega) = o at hx
  cases ao with
  | none => have := (hn rfl).1; omega
  | some a =>
    have hm := hs o (List.mem_of_getElem? hx)
    refine ⟨a, o, rfl, hx, ?_, ?_, ?_, hm.1, hm.2⟩
    · exact hc a rfl (k * 3) _ (by have := ovs_at hx 0 (by omega); rw [Nat.add_zero] at this; rw [this]; rfl)
    · have := hc a rfl _ _ (show (ovs L)[k * 3 + 1]? = some (.string o.key) by rw [ovs_at hx 1 (by omega)]; rfl)
      rw [← Addr.add_add] at this
      exact this
    · have := hc a rfl _ _ (show (ovs L)[k * 3 + 2]? = some (.string o.val) by rw [ovs_at hx 2 (by omega)]; rfl)
      rw [← Addr.add_add] at this
      exact this

/-- Are all of them right? -/
def okOp (o : Opm) : Bool := !(o.del && !o.val.toList.isEmpty)
def okOps (L : List Opm) : Bool := L.all okOp && decide (L.length ≤ 1000)

def bulkO (L : List Opm) : Nat := (L.map fun o => 1 + o.key.size + o.val.size).sum
theorem bulkO_cons (o : Opm) (L : List Opm) : bulkO (o :: L) = 1 + o.key.size + o.val.size + bulkO L := by simp [bulkO]
theorem bulkO_append (L M : List Opm) : bulkO (L ++ M) = bulkO L + bulkO M := by simp [bulkO]
theorem bulkO_length (L : List Opm) : L.length ≤ bulkO L := by
  induction L with
  | nil => simp
  | cons o L ih => rw [bulkO_cons, List.length_cons]; omega
theorem bulkO_mem {L : List Opm} {o : Opm} (h : o ∈ L) : 1 + o.key.size + o.val.size ≤ bulkO L := by
  induction L with
  | nil => cases h
  | cons p L ih =>
    rw [bulkO_cons]
    rcases List.mem_cons.1 h with rfl | h
    · omega
    · have := ih h; omega

/-- What Great leaves. -/
def GreatO (L : List Opm) (w : World) (e : Ending) (w' : World) : Prop := ∃ b q, e = .returned (.bool b) ∧ w' = w.drewN q ∧ (b = false → bulkO L ≤ 5000)

/-- A struct is loaded from its cells. -/
theorem run_loadVar_cells (w : World) (a : Addr) (ty : TypeId) (cs : List Value) (d : TypeDesc) (hc : ∀ j v, cs[j]? = some v → w.cell? (a.add j) = some v)
    (hu : Tryz.prog.underlying ty = some d) (hd : (match d with | .struct _ | .array _ _ => true | _ => false) = true) (hi : (Tryz.prog.info? ty).map (·.size) = some cs.length) :
    (loadVar ty a).run Tryz.prog w = .ok (.agg cs.toArray) w := by
  have hl : (loadCells a cs.length).run Tryz.prog w = .ok cs.toArray w := run_loadCells_list (P := Tryz.prog) w a cs hc
  cases hq : Tryz.prog.info? ty with
  | none => simp [hq] at hi
  | some i =>
    have hs : i.size = cs.length := by simpa [hq] using hi
    have hagg : (isAgg ty).run Tryz.prog w = .ok true w := by
      unfold isAgg
      rw [Sem.run_bind, run_underlying hu w]
      cases d <;> simp_all
    simp [loadVar, Sem.run_bind, hagg, sizeOf, typeInfo, hq, hs, hl]

theorem load_op (w : World) (a : Addr) (o : Opm) (h0 : w.cell? a = some (.bool o.del)) (h1 : w.cell? ⟨a.block, a.off + 1, none⟩ = some (.string o.key)) (h2 : w.cell? ⟨a.block, a.off + 2, none⟩ = some (.string o.val)) :
    (loadVar 90 a).run Tryz.prog w = .ok (.agg #[.bool o.del, .string o.key, .string o.val]) w :=
  run_loadVar_cells w a 90 [.bool o.del, .string o.key, .string o.val] _ (fun j v hj => by
    match j with
    | 0 => simp at hj; subst hj; simpa [Addr.add] using h0
    | 1 => simp at hj; subst hj; simpa [Addr.add] using h1
    | 2 => simp at hj; subst hj; simpa [Addr.add] using h2
    | j + 3 => simp at hj) Tryz.underlying90 rfl (by kernel_rfl)

theorem text_inj' {s t : ByteArray} (h : s.toList = t.toList) : s = t := by
  rw [ByteArray.toList_eq, ByteArray.toList_eq] at h
  exact Go.WideShapes.bytes_inj (by simpa using h)

end Go.Proofs.YthglbmnhlnpmkaaGreat

/- Lists of ops that came in. Numbers and types by name. -/
namespace Go.Proofs.YthglbmnhlnpmkaaGreat
set_option maxRecDepth 100000
open Go.ChangeShapes Go.WideShapes Go.ChangeAt Go.RowKit Go.Lib Go.Deep

instance : Inhabited Opm := ⟨⟨false, ⟨#[]⟩, ⟨#[]⟩⟩⟩

theorem cellsOpK : Tryz.prog.cellsOf 90 = 3 := by kernel_rfl
theorem cellsBoolK : Tryz.prog.cellsOf 4 = 1 := by kernel_rfl
theorem cellsStrK : Tryz.prog.cellsOf 9 = 1 := by kernel_rfl

/-- The three cells of an op that came in. -/
theorem open_op {H : Type} {enc : TypeId × Value → H} {W : World} {base : Nat} {spare : Nat → Bool} {held : Bool} {fuel : Nat} {cs : List Value} {x : DataW H × List MemPlace} (hl : cs.length = 3)
    (h : DataW.trod enc Tryz.prog W base spare held fuel 90 cs = some x) : ∃ o : Opm, cs = ov o ∧ o.key.size ≤ maxLen ∧ o.val.size ≤ maxLen := by
  obtain ⟨xs, n, _, _, _, hxl, hf⟩ := DataW.trod_struct Tryz.underlying90 h
  have g0 : DataW.trod enc Tryz.prog W base spare held n 4 ((cs.drop 0).take (Tryz.prog.cellsOf 4)) = xs[0]? := hf 0 _ rfl
  have g1 : DataW.trod enc Tryz.prog W base spare held n 9 ((cs.drop 1).take (Tryz.prog.cellsOf 9)) = xs[1]? := hf 1 _ rfl
  have g2 : DataW.trod enc Tryz.prog W base spare held n 9 ((cs.drop 2).take (Tryz.prog.cellsOf 9)) = xs[2]? := hf 2 _ rfl
  have hxl3 : xs.length = 3 := hxl
  rw [cellsBoolK] at g0
  rw [cellsStrK] at g1 g2
  match cs, hl with
  | [u0, u1, u2], _ =>
    rw [List.getElem?_eq_getElem (by omega)] at g0 g1 g2
    obtain ⟨b, e0, _⟩ := DataW.trod_bool Tryz.underlying4 g0
    obtain ⟨s, e1, _, z1⟩ := DataW.trod_string Tryz.underlying9 g1
    obtain ⟨t, e2, _, z2⟩ := DataW.trod_string Tryz.underlying9 g2
    refine ⟨⟨b, s, t⟩, ?_, z1, z2⟩
    simp only [List.drop_zero, List.drop_succ_cons, List.take_succ_cons, List.take_zero, List.cons.injEq, and_true] at e0 e1 e2
    rw [e0, e1, e2]
    rfl

theorem ovs_range (y : Nat → Opm) (n j : Nat) (hj : j < n * 3) : (ovs ((List.range n).map y))[j]? = (ov (y (j / 3)))[j % 3]? := by
  have hx : ((List.range n).map y)[j / 3]? = some (y (j / 3)) := by simp [show j / 3 < n by omega]
  have := ovs_at hx (j % 3) (Nat.mod_lt _ (by omega))
  rw [show j / 3 * 3 + j % 3 = j by omega] at this
  exact this

/-- A []api.Op that came in reads as ops. -/
theorem open_ops {H : Type} {enc : TypeId × Value → H} {W : World} {base : Nat} {spare : Nat → Bool} {held : Bool} {fuel : Nat} {a0 : Option Addr} {len cap : Nat} {x : DataW H × List MemPlace}
    (h : DataW.trod enc Tryz.prog W base spare held fuel 87 [.slice a0 len cap] = some x) : ∃ L : List Opm, Opr W (.slice a0 len cap) len L := by
  rcases open_slice Tryz.underlying87 h with ⟨hcs, _⟩ | ⟨a, len', cap', m, n, D, Pl, hcs, _, hl, hm, hmm, _, hx⟩
  · simp only [List.cons.injEq, Value.slice.injEq, and_true] at hcs
    obtain ⟨rfl, rfl, rfl⟩ := hcs
    exact ⟨[], Opr.nil W⟩
  · simp only [List.cons.injEq, Value.slice.injEq, and_true] at hcs
    obtain ⟨rfl, rfl, rfl⟩ := hcs
    have hlm : len ≤ m := by rw [hmm]; split <;> omega
    rw [cellsOpK] at hx
    have each : ∀ i, i < len → ∃ o : Opm, (∀ k, k < 3 → W.cell? (a.add (i * 3 + k)) = (ov o)[k]?) ∧ o.key.size ≤ maxLen ∧ o.val.size ≤ maxLen := by
      intro i hi
      obtain ⟨cs', h1, h2⟩ := hx i (by omega)
      obtain ⟨_, hlen, hcell⟩ := World.cells?_some h1
      obtain ⟨o, rfl, z⟩ := open_op hlen h2
      exact ⟨o, fun k hk => by have := hcell k hk; rw [Addr.add_add] at this; exact this, z⟩
    obtain ⟨y, hy⟩ := choose_lt each
    refine ⟨(List.range len).map y, by simp, Nat.le_trans hl hm, ⟨some a, cap, rfl, by rw [ovs_length]; simp, hl, (fun e => by cases e), fun a' ha j u hj => ?_⟩, fun o ho => ?_⟩
    · cases ha
      have hj1 := (List.getElem?_eq_some_iff.1 hj).1
      rw [ovs_length] at hj1
      simp only [List.length_map, List.length_range] at hj1
      rw [ovs_range y len j hj1] at hj
      have := (hy (j / 3) (by omega)).1 (j % 3) (Nat.mod_lt _ (by omega))
      rw [show j / 3 * 3 + j % 3 = j by omega] at this
      rw [this, hj]
    · simp only [List.mem_map, List.mem_range] at ho
      obtain ⟨i, hi, rfl⟩ := ho
      exact (hy i hi).2

end Go.Proofs.YthglbmnhlnpmkaaGreat

/- Lists of pairs that are read. Numbers and types by name. -/
namespace Go.Proofs.YthglbmnhlnpmkaaGreat
open Go.RowKit Go.Lib

/-- A pair: key, value. -/
structure Prm where
  key : ByteArray
  val : ByteArray
  deriving DecidableEq

def pv (o : Prm) : List Value := [.string o.key, .string o.val]
def pvs (L : List Prm) : List Value := L.flatMap pv
theorem pvs_length (L : List Prm) : (pvs L).length = L.length * 2 := by
  induction L with
  | nil => rfl
  | cons o L ih => simp only [pvs, List.flatMap_cons, List.length_append, List.length_cons] at *; rw [ih]; simp [pv]; omega
theorem pvs_at {L : List Prm} {k : Nat} {o : Prm} (h : L[k]? = some o) (j : Nat) (hj : j < 2) : (pvs L)[k * 2 + j]? = (pv o)[j]? := by
  induction L generalizing k with
  | nil => cases h
  | cons p L ih =>
    have e : pvs (p :: L) = pv p ++ pvs L := by simp [pvs]
    cases k with
    | zero =>
      simp only [List.getElem?_cons_zero, Option.some.injEq] at h
      subst h
      rw [e, Nat.zero_mul, Nat.zero_add, List.getElem?_append_left (by simp [pv]; omega)]
    | succ k =>
      rw [List.getElem?_cons_succ] at h
      rw [e, List.getElem?_append_right (by simp [pv]; omega), ← ih h]
      congr 1
      simp [pv]; omega

/-- A list of pairs can be read; their texts are no longer than texts can be. -/
def Prr (w : World) (v : Value) (n : Nat) (L : List Prm) : Prop := n = L.length ∧ n ≤ maxLen ∧ Cells w v 2 n (pvs L) ∧ ∀ o ∈ L, o.key.size ≤ maxLen ∧ o.val.size ≤ maxLen

theorem Prr.shape {w : World} {v : Value} {n : Nat} {L : List Prm} (h : Prr w v n L) : ∃ ao c, v = .slice ao n c := by
  obtain ⟨_, _, ⟨ao, c, rfl, _⟩, _⟩ := h
  exact ⟨ao, c, rfl⟩
theorem Prr.later {w w' : World} {v : Value} {n : Nat} {L : List Prm} (h : Prr w v n L) (hg : Grow w w') : Prr w' v n L := ⟨h.1, h.2.1, h.2.2.1.later hg, h.2.2.2⟩
theorem Prr.nil (w : World) : Prr w (.slice none 0 0) 0 [] := ⟨rfl, Nat.zero_le _, ⟨none, 0, rfl, rfl, Nat.le_refl _, fun _ => ⟨rfl, rfl⟩, fun a h => by cases h⟩, fun o h => by cases h⟩

theorem Prr.at {w : World} {ao : Option Addr} {n c : Nat} {L : List Prm} (h : Prr w (.slice ao n c) n L) {k : Nat} (hk : k < n) :
    ∃ a o, ao = some a ∧ L[k]? = some o ∧ w.cell? (a.add (k * 2)) = some (.string o.key) ∧ w.cell? ⟨(a.add (k * 2)).block, (a.add (k * 2)).off + 1, none⟩ = some (.string o.val) ∧ o.key.size ≤ maxLen ∧ o.val.size ≤ maxLen := by
  obtain ⟨h1, h2, ⟨ao', c', e, h0, hnc, hn, hc⟩, hs⟩ := h
  simp only [Value.slice.injEq] at e
  obtain ⟨rfl, _, rfl⟩ := e
  have hx : L[k]? = some (L[k]'(by omega)) := List.getElem?_eq_getElem (by omega)
  generalize L[k]'(by omega) = o at hx
  cases ao with
  | none => have := (hn rfl).1; omega
  | some a =>
    have hm := hs o (List.mem_of_getElem? hx)
    refine ⟨a, o, rfl, hx, ?_, ?_, hm.1, hm.2⟩
    · exact hc a rfl (k * 2) _ (by have := pvs_at hx 0 (by omega); rw [Nat.add_zero] at this; rw [this]; rfl)
    · have := hc a rfl _ _ (show (pvs L)[k * 2 + 1]? = some (.string o.val) by rw [pvs_at hx 1 (by omega)]; rfl)
      rw [← Addr.add_add] at this
      exact this

/-- Keys that rise. -/
def kOf (o : Prm) : List UInt8 := o.key.toList
def Rise (L : List Prm) : Prop := L.Pairwise fun a b => kOf a < kOf b
instance riseDec (L : List Prm) : Decidable (Rise L) := by unfold Rise; infer_instance

theorem rise_steps {L : List Prm} (h : ∀ j a b, L[j]? = some a → L[j + 1]? = some b → kOf a < kOf b) : Rise L := by
  unfold Rise
  induction L with
  | nil => exact List.Pairwise.nil
  | cons x L ih =>
    have hL := ih fun j a b h1 h2 => h (j + 1) a b (by simpa using h1) (by simpa using h2)
    refine List.Pairwise.cons (fun y hy => ?_) hL
    cases L with
    | nil => cases hy
    | cons z L =>
      have h0 := h 0 x z rfl rfl
      rcases List.mem_cons.1 hy with rfl | hy
      · exact h0
      · exact List.lt_trans h0 ((List.pairwise_cons.1 hL).1 y hy)
theorem rise_next {L : List Prm} (h : Rise L) {j : Nat} {a b : Prm} (ha : L[j]? = some a) (hb : L[j + 1]? = some b) : kOf a < kOf b := by
  obtain ⟨h1, e1⟩ := List.getElem?_eq_some_iff.1 ha
  obtain ⟨h2, e2⟩ := List.getElem?_eq_some_iff.1 hb
  have := List.pairwise_iff_getElem.1 h j (j + 1) h1 h2 (by omega)
  rw [e1, e2] at this
  exact this

/-- What Pairs tells. -/
def SameP (ps qs : List Prm) (w : World) (e : Ending) (w' : World) : Prop := ∃ k, e = .returned (.bool (decide (ps = qs))) ∧ w' = w.drewN k

theorem same_pairs (v1 v2 : Value) (n m : Nat) (ps qs : List Prm) (w : World) (h1 : Prr w v1 n ps) (h2 : Prr w v2 m qs) :
    Calls Tryz.prog 18 #[v1, v2] w (SameP ps qs w) := by
  obtain ⟨a1, c1, rfl⟩ := h1.shape
  obtain ⟨a2, c2, rfl⟩ := h2.shape
  have H1 := Lib.hid h1
  have H2 := Lib.hid h2
  have hm := h1.2.1
  unfold maxLen at hm
  clear h1 h2
  by_cases hne : n = m
  · subst hne
    go_enter Tryz.func18, Tryz.ntmps18
    go_wp2_with fail
    go_loopw [5] (fun i wr => ∃ k q : Nat, k ≤ n ∧ i = .int .i64 k ∧ wr = w.drewN q ∧ Hid (ps.take k = qs.take k))
      (fun i _ => n - (intOf i).toNat)
    case atStart => exact ⟨0, 0, Nat.zero_le _, rfl, rfl, Lib.hid rfl⟩
    case round =>
      obtain ⟨k, q, hk, rfl, hw, hs⟩ := hrel
      by_cases h1 : k < n
      · have h3 : (k : Int) < (n : Int) := by omega
        have R1 : Prr wr (.slice a1 n c1) n ps := by rw [hw]; exact H1.out
        have R2 : Prr wr (.slice a2 n c2) n qs := by rw [hw]; exact H2.out
        obtain ⟨x1, o1, rfl, e1, ca0, ca1, _, _⟩ := R1.at h1
        obtain ⟨x2, o2, rfl, e2, cb0, cb1, _, _⟩ := R2.at h1
        have HW := Lib.hid (And.intro hw (And.intro e1 e2))
        clear hw e1 e2 R1 R2
        obtain ⟨k1, v1⟩ := o1
        obtain ⟨k2, v2⟩ := o2
        simp only at ca0 ca1 cb0 cb1
        by_cases heq : k1.toList = k2.toList ∧ v1.toList = v2.toList
        · obtain ⟨hk2, hv2⟩ := heq
          obtain rfl := text_inj' hk2
          obtain rfl := text_inj' hv2
          have HN : Hid (ps.take (k + 1) = qs.take (k + 1)) := Lib.hid (by rw [take_next HW.out.2.1, take_next HW.out.2.2, hs.out])
          clear hk2 hv2
          go_wp2_with fail
          go_quiet (fail)
          go_wp2
          exact ⟨⟨k + 1, q + nq, by omega, by simp, by rw [HW.out.1, World.drewN_drewN], HN⟩, by simp [intOf]; omega⟩
        · have HN : Hid (ps ≠ qs) := Lib.hid (by
            rintro rfl
            have e := HW.out.2.1.symm.trans HW.out.2.2
            simp only [Option.some.injEq, Prm.mk.injEq] at e
            exact heq ⟨by rw [e.1], by rw [e.2]⟩)
          have hcase : (¬ k1.toList = k2.toList) ∨ (k1.toList = k2.toList ∧ ¬ v1.toList = v2.toList) := by
            by_cases x2 : k1.toList = k2.toList
            · exact .inr ⟨x2, fun x3 => heq ⟨x2, x3⟩⟩
            · exact .inl x2
          clear heq
          rcases hcase with x2 | ⟨x2, x3⟩
          · go_wp2_with fail
            go_quiet (fail)
            go_wp2
            go_ret
            exact ⟨q + nq, by rw [decide_eq_false HN.out]; rfl, by rw [HW.out.1, World.drewN_drewN]⟩
          · go_wp2_with fail
            go_quiet (fail)
            go_wp2
            go_ret
            exact ⟨q + nq, by rw [decide_eq_false HN.out]; rfl, by rw [HW.out.1, World.drewN_drewN]⟩
      · have h3 : ¬ (k : Int) < (n : Int) := by omega
        obtain rfl : k = n := by omega
        have HW := Lib.hid hw
        clear hw
        go_wp2_with fail
        go_ret
        have h5 := hs.out
        rw [List.take_of_length_le (by have := H1.out.1; omega), List.take_of_length_le (by have := H2.out.1; omega)] at h5
        exact ⟨q, by rw [decide_eq_true h5]; rfl, HW.out⟩
  · have h3 : ¬ (n : Int) = (m : Int) := by omega
    have h4 : ((n : Int) != (m : Int)) = true := by simpa using h3
    go_enter Tryz.func18, Tryz.ntmps18
    go_wp2_with fail
    go_ret
    refine ⟨0, ?_, rfl⟩
    rw [decide_eq_false]
    · rfl
    intro h; exact absurd (by have := H1.out.1; have := H2.out.1; rw [h] at *; omega) hne

end Go.Proofs.YthglbmnhlnpmkaaGreat

namespace Go.Proofs.YthglbmnhlnpmkaaGreat
set_option maxRecDepth 100000
open Go.ChangeShapes Go.WideShapes Go.ChangeAt Go.RowKit Go.Lib Go.Deep

instance : Inhabited Prm := ⟨⟨⟨#[]⟩, ⟨#[]⟩⟩⟩

theorem cellsPairK : Tryz.prog.cellsOf 56 = 2 := by kernel_rfl

/-- The two cells of a pair that came in. -/
theorem open_pair {H : Type} {enc : TypeId × Value → H} {W : World} {base : Nat} {spare : Nat → Bool} {held : Bool} {fuel : Nat} {cs : List Value} {x : DataW H × List MemPlace} (hl : cs.length = 2)
    (h : DataW.trod enc Tryz.prog W base spare held fuel 56 cs = some x) : ∃ o : Prm, cs = pv o ∧ o.key.size ≤ maxLen ∧ o.val.size ≤ maxLen := by
  obtain ⟨xs, n, _, _, _, hxl, hf⟩ := DataW.trod_struct Tryz.underlying56 h
  have g0 : DataW.trod enc Tryz.prog W base spare held n 9 ((cs.drop 0).take (Tryz.prog.cellsOf 9)) = xs[0]? := hf 0 _ rfl
  have g1 : DataW.trod enc Tryz.prog W base spare held n 9 ((cs.drop 1).take (Tryz.prog.cellsOf 9)) = xs[1]? := hf 1 _ rfl
  have hxl2 : xs.length = 2 := hxl
  rw [cellsStrK] at g0 g1
  match cs, hl with
  | [u0, u1], _ =>
    rw [List.getElem?_eq_getElem (by omega)] at g0 g1
    obtain ⟨s, e0, _, z0⟩ := DataW.trod_string Tryz.underlying9 g0
    obtain ⟨t, e1, _, z1⟩ := DataW.trod_string Tryz.underlying9 g1
    refine ⟨⟨s, t⟩, ?_, z0, z1⟩
    simp only [List.drop_zero, List.drop_succ_cons, List.take_succ_cons, List.take_zero, List.cons.injEq, and_true] at e0 e1
    rw [e0, e1]
    rfl

theorem pvs_range (y : Nat → Prm) (n j : Nat) (hj : j < n * 2) : (pvs ((List.range n).map y))[j]? = (pv (y (j / 2)))[j % 2]? := by
  have hx : ((List.range n).map y)[j / 2]? = some (y (j / 2)) := by simp [show j / 2 < n by omega]
  have := pvs_at hx (j % 2) (Nat.mod_lt _ (by omega))
  rw [show j / 2 * 2 + j % 2 = j by omega] at this
  exact this

/-- A []api.Pair that came in reads as pairs. -/
theorem open_pairs {H : Type} {enc : TypeId × Value → H} {W : World} {base : Nat} {spare : Nat → Bool} {held : Bool} {fuel : Nat} {a0 : Option Addr} {len cap : Nat} {x : DataW H × List MemPlace}
    (h : DataW.trod enc Tryz.prog W base spare held fuel 33 [.slice a0 len cap] = some x) : ∃ L : List Prm, Prr W (.slice a0 len cap) len L := by
  rcases open_slice Tryz.underlying33 h with ⟨hcs, _⟩ | ⟨a, len', cap', m, n, D, Pl, hcs, _, hl, hm, hmm, _, hx⟩
  · simp only [List.cons.injEq, Value.slice.injEq, and_true] at hcs
    obtain ⟨rfl, rfl, rfl⟩ := hcs
    exact ⟨[], Prr.nil W⟩
  · simp only [List.cons.injEq, Value.slice.injEq, and_true] at hcs
    obtain ⟨rfl, rfl, rfl⟩ := hcs
    have hlm : len ≤ m := by rw [hmm]; split <;> omega
    rw [cellsPairK] at hx
    have each : ∀ i, i < len → ∃ o : Prm, (∀ k, k < 2 → W.cell? (a.add (i * 2 + k)) = (pv o)[k]?) ∧ o.key.size ≤ maxLen ∧ o.val.size ≤ maxLen := by
      intro i hi
      obtain ⟨cs', h1, h2⟩ := hx i (by omega)
      obtain ⟨_, hlen, hcell⟩ := World.cells?_some h1
      obtain ⟨o, rfl, z⟩ := open_pair hlen h2
      exact ⟨o, fun k hk => by have := hcell k hk; rw [Addr.add_add] at this; exact this, z⟩
    obtain ⟨y, hy⟩ := choose_lt each
    refine ⟨(List.range len).map y, by simp, Nat.le_trans hl hm, ⟨some a, cap, rfl, by rw [pvs_length]; simp, hl, (fun e => by cases e), fun a' ha j u hj => ?_⟩, fun o ho => ?_⟩
    · cases ha
      have hj1 := (List.getElem?_eq_some_iff.1 hj).1
      rw [pvs_length] at hj1
      simp only [List.length_map, List.length_range] at hj1
      rw [pvs_range y len j hj1] at hj
      have := (hy (j / 2) (by omega)).1 (j % 2) (Nat.mod_lt _ (by omega))
      rw [show j / 2 * 2 + j % 2 = j by omega] at this
      rw [this, hj]
    · simp only [List.mem_map, List.mem_range] at ho
      obtain ⟨i, hi, rfl⟩ := ho
      exact (hy i hi).2

end Go.Proofs.YthglbmnhlnpmkaaGreat
