/- An own row of bytes behind other work; an empty one. Numbers and types by name. -/
import Derived.Test.YthcdkggkoanjpaaGreatDoorTxt
import Derived.ProofKit
import Derived.Deep.Slices
import Derived.Deep.Fields
import Derived.Test.YthcdkggkoanjpaaGreatDoorBe4
/- Rows of whatever elements: what is read of them, append to own ones. Numbers and types by name. -/
namespace Go.Proofs.YthcdkggkoanjpaaGreatDoor
open Go.RowKit Go.Lib
def Cells (w : World) (v : Value) (size n : Nat) (xs : List Value) : Prop :=
  ∃ ao cap, v = .slice ao n cap ∧ xs.length = n * size ∧ n ≤ cap ∧ (ao = none → n = 0 ∧ cap = 0) ∧ ∀ a, ao = some a → ∀ j u, xs[j]? = some u → w.cell? (a.add j) = some u
theorem Cells.later {w w' : World} {v : Value} {size n : Nat} {xs : List Value} (h : Cells w v size n xs) (hg : Grow w w') : Cells w' v size n xs := by
  obtain ⟨ao, cap, rfl, h0, h1, h2, h3⟩ := h
  refine ⟨ao, cap, rfl, h0, h1, h2, fun a ha j u hj => ?_⟩
  have hc := h3 a ha j u hj
  rw [World.cell?_of_block (hg.block _ (World.block_lt_of_cell? w _ hc))]
  exact hc
structure Elem (sl el : TypeId) (z : Value) (size bytes : Nat) : Prop where
  under : Tryz.prog.underlying sl = some (.slice el)
  info : (Tryz.prog.info? el).map (fun i => (i.zero, i.size, i.bytes)) = some (some z, size, bytes)
  cells : z.cells.size = size
  pos : 0 < size
theorem Cells.own {w : World} {base e size : Nat} {v : Value} {n : Nat} {xs : List Value} (h : w.ownsRow base e size v n xs) (hs : 0 < size) : Cells w v size n xs := by
  rcases h.2 with ⟨rfl, h0⟩ | ⟨g, cap, cur, rfl, _, hg, hc, _, hz, ht⟩
  · have hl := h.1
    subst h0
    exact ⟨none, 0, rfl, hl, Nat.le_refl _, fun _ => ⟨rfl, rfl⟩, fun a h => by cases h⟩
  · refine ⟨some ⟨g, 0, none⟩, cap, rfl, h.1, hc, (fun h => by cases h), fun a ha j u hj => ?_⟩
    cases ha
    have hlt : j < xs.length := (List.getElem?_eq_some_iff.1 hj).1
    have hx : xs[j]? = cur[j]? := by
      rw [← ht, List.getElem?_take, if_pos (by rw [h.1] at hlt; exact hlt)]
      simp
    show w.cell? ((⟨g, 0, none⟩ : Addr).add j) = some u
    rw [Addr.add_lit]
    simp only [World.cell?, hg, Nat.zero_add]
    rw [← hx, hj]
    simp
theorem Cells.lit (w : World) (xs : List Value) (t : TypeId) (fr : Nat × Nat) (size n : Nat) (hn : xs.length = n * size) : Cells (w.alloc (.cells xs.toArray t fr)) (.slice (some ⟨w.heap.size, 0, none⟩) n n) size n xs := by
  refine ⟨some ⟨w.heap.size, 0, none⟩, n, rfl, hn, Nat.le_refl _, (fun h => by cases h), fun a ha j u hj => ?_⟩
  cases ha
  rw [Addr.add_lit, World.cell?_alloc_mark]
  simpa using hj
theorem run_append_gen {sl el : TypeId} {z : Value} {size bytes : Nat} (E : Elem sl el z size bytes) (ty : TypeId) (base : Nat) (v : Value) (n : Nat) (xs : List Value) (w : World) (hown : w.ownsRow base el size v n xs) (vb : Value) (m : Nat) (news : List Value) (hr : Cells w vb size m news) (h1 : ∀ u ∈ news, u.oneCell' = true)
    (h63 : n + m ≤ maxLen) (hbytes : (n + m) * bytes ≤ 140737488355328) (hbase : base ≤ w.heap.size) :
    ∃ ao c w', (Builtin.append_ #[sl, sl] ty #[v, vb]).run Tryz.prog w = .ok (.slice ao (n + m) c) w' ∧ w'.ownsRow base el size (.slice ao (n + m) c) (n + m) (xs ++ news) ∧ w.grownBy w' v.ownBlock ∧
      ((Value.slice ao (n + m) c).ownBlock = v.ownBlock ∨ (Value.slice ao (n + m) c).ownBlock = some w.heap.size) := by
  obtain ⟨i0, hi, hz0, hz1, hz2⟩ := info_parts E.info
  obtain ⟨ao, cap, rfl, hl, _, hn, hc⟩ := hr
  have shape : ∀ {w : World} {v : Value} {n : Nat} {xs : List Value}, w.ownsRow base el size v n xs → ∃ ao c, v = .slice ao n c := by
    intro w v n xs h
    rcases h.2 with ⟨rfl, rfl⟩ | ⟨g, cap, cur, rfl, _⟩
    · exact ⟨none, 0, rfl⟩
    · exact ⟨_, _, rfl⟩
  cases ao with
  | none =>
    obtain ⟨rfl, rfl⟩ := hn rfl
    obtain rfl : news = [] := List.eq_nil_of_length_eq_zero (by simpa using hl)
    obtain ⟨ao, c, rfl⟩ := shape hown
    have := run_append_owned_none (P := Tryz.prog) w base sl ty el i0 size E.under hi (.slice ao n c) n xs hown
    exact ⟨ao, c, w, this, by simpa using hown, grown_refl _ _, .inl rfl⟩
  | some a =>
    obtain ⟨v', w', hr, h2, h3, _, h5⟩ := run_append_own_at (P := Tryz.prog) w base sl ty el i0 z size bytes E.under hi hz0 hz1 hz2 E.cells E.pos v n xs hown a m cap news hl (hc a rfl) h1 h63 hbytes hbase
    obtain ⟨ao, c, rfl⟩ := shape h2
    exact ⟨ao, c, w', hr, h2, h3, h5⟩
theorem wpList_append_gen {sl el : TypeId} {z : Value} {size bytes : Nat} (E : Elem sl el z size bytes) {ops : Array Oper} {rest : List Oper} {o : Oper} {a : Act} {w : World} {Q : Exit → Act → World → Prop} (hgd : o.guard = none) (s x : Operand)
    (ho : o.op = .call { callee := .builtin .append, args := #[s, x], argTypes := #[sl, sl] })
    (base : Nat) (v : Value) (n : Nat) (xs : List Value) (hs : a.eval s = v) (hown : w.ownsRow base el size v n xs) (vb : Value) (m : Nat) (news : List Value) (hx : a.eval x = vb) (hr : Cells w vb size m news) (h1 : ∀ u ∈ news, u.oneCell' = true)
    (p : Nat) (hp : p = n + m) (h63 : Hid (p ≤ 1000000)) (hby : bytes ≤ 1000) (hbase : base ≤ w.heap.size)
    (h : ∀ ao c w', w'.ownsRow base el size (.slice ao p c) p (xs ++ news) → Below base w w' → w.grownBy w' v.ownBlock → ((Value.slice ao p c).ownBlock = v.ownBlock ∨ (Value.slice ao p c).ownBlock = some w.heap.size) → wpList Tryz.prog ops Q rest (a.put o.dst (.slice ao p c)) w') : wpList Tryz.prog ops Q (o :: rest) a w := by
  subst hp
  have hb := h63.out
  refine wpList_plain hgd fun K hK => ?_
  obtain ⟨ao, c, w', hr', h2, h3, h4⟩ := run_append_gen E o.type base v n xs w hown vb m news hr h1 (by unfold maxLen; omega) (Nat.le_trans (Nat.mul_le_mul hb hby) (by decide)) hbase
  unfold Oper.wp execOp
  simp only [ho, resolve, invoke, builtin, Sem.run_bind, Sem.run_pure, Result.andThen_ok, List.map_toArray, List.map_cons, List.map_nil, hs, hx, hr']
  exact hK _ _ (h ao c w' h2 (below_grown_own hown h3 hbase) h3 h4)
theorem step_append_gen {sl el : TypeId} {z : Value} {size bytes : Nat} (E : Elem sl el z size bytes) {ops : Array Oper} {o : Oper} {a : Act} {w : World} {K : Act → World → Prop} {Q : Exit → Act → World → Prop} {F : Prop} (hgd : o.guard = none) (s x : Operand)
    (ho : o.op = .call { callee := .builtin .append, args := #[s, x], argTypes := #[sl, sl] })
    (base : Nat) (v : Value) (n : Nat) (xs : List Value) (hs : a.eval s = v) (hown : w.ownsRow base el size v n xs) (vb : Value) (m : Nat) (news : List Value) (hx : a.eval x = vb) (hr : Cells w vb size m news) (h1 : ∀ u ∈ news, u.oneCell' = true)
    (p : Nat) (hp : p = n + m) (h63 : Hid (p ≤ 1000000)) (hby : bytes ≤ 1000) (hbase : base ≤ w.heap.size)
    (h : ∀ ao c w', w'.ownsRow base el size (.slice ao p c) p (xs ++ news) → Below base w w' → w.grownBy w' v.ownBlock → ((Value.slice ao p c).ownBlock = v.ownBlock ∨ (Value.slice ao p c).ownBlock = some w.heap.size) → K (a.put o.dst (.slice ao p c)) w') :
    if Region.wanted o (yielded ops a.tmps) = true then Oper.wp Tryz.prog o a w K Q else F := by
  subst hp
  have hb := h63.out
  have hw : Region.wanted o (yielded ops a.tmps) = true := by simp [Region.wanted, hgd]
  rw [if_pos hw]
  obtain ⟨ao, c, w', hr', h2, h3, h4⟩ := run_append_gen E o.type base v n xs w hown vb m news hr h1 (by unfold maxLen; omega) (Nat.le_trans (Nat.mul_le_mul hb hby) (by decide)) hbase
  unfold Oper.wp execOp
  simp only [ho, resolve, invoke, builtin, Sem.run_bind, Sem.run_pure, Result.andThen_ok, List.map_toArray, List.map_cons, List.map_nil, hs, hx, hr']
  exact h ao c w' h2 (below_grown_own hown h3 hbase) h3 h4
end Go.Proofs.YthcdkggkoanjpaaGreatDoor

/- Lists of ops that are read. Numbers and types by name. -/
namespace Go.Proofs.YthcdkggkoanjpaaGreatDoor
open Go.RowKit Go.Lib
structure Opm where
  del : Bool
  key : ByteArray
  val : ByteArray
  deriving DecidableEq
def ov (o : Opm) : List Value := [.bool o.del, .string o.key, .string o.val]
def ovs (L : List Opm) : List Value := L.flatMap ov
theorem ovs_length (L : List Opm) : (ovs L).length = L.length * 3 := by
  induction L with
  | nil => rfl
  | cons o L ih => simp only [ovs, List.flatMap_cons, List.length_append, List.length_cons] at *; rw [ih]; simp [ov]; omega
theorem ovs_at {L : List Opm} {k : Nat} {o : Opm} (h : L[k]? = some o) (j : Nat) (hj : j < 3) : (ovs L)[k * 3 + j]? = (ov o)[j]? := by
  induction L generalizing k with
  | nil => cases h
  | cons p L ih =>
    have e : ovs (p :: L) = ov p ++ ovs L := by simp [ovs]
    cases k with
    | zero =>
      simp only [List.getElem?_cons_zero, Option.some.injEq] at h
      subst h
      rw [e, Nat.zero_mul, Nat.zero_add, List.getElem?_append_left (by simp [ov]; omega)]
    | succ k =>
      rw [List.getElem?_cons_succ] at h
      rw [e, List.getElem?_append_right (by simp [ov]; omega), ← ih h]
      congr 1
      simp [ov]; omega
def Opr (w : World) (v : Value) (n : Nat) (L : List Opm) : Prop := n = L.length ∧ n ≤ maxLen ∧ Cells w v 3 n (ovs L) ∧ ∀ o ∈ L, o.key.size ≤ maxLen ∧ o.val.size ≤ maxLen
theorem Opr.shape {w : World} {v : Value} {n : Nat} {L : List Opm} (h : Opr w v n L) : ∃ ao c, v = .slice ao n c := by
  obtain ⟨_, _, ⟨ao, c, rfl, _⟩, _⟩ := h
  exact ⟨ao, c, rfl⟩
theorem Opr.later {w w' : World} {v : Value} {n : Nat} {L : List Opm} (h : Opr w v n L) (hg : Grow w w') : Opr w' v n L := ⟨h.1, h.2.1, h.2.2.1.later hg, h.2.2.2⟩
theorem Opr.nil (w : World) : Opr w (.slice none 0 0) 0 [] := ⟨rfl, Nat.zero_le _, ⟨none, 0, rfl, rfl, Nat.le_refl _, fun _ => ⟨rfl, rfl⟩, fun a h => by cases h⟩, fun o h => by cases h⟩
theorem Opr.at {w : World} {ao : Option Addr} {n c : Nat} {L : List Opm} (h : Opr w (.slice ao n c) n L) {k : Nat} (hk : k < n) :
    ∃ a o, ao = some a ∧ L[k]? = some o ∧ w.cell? (a.add (k * 3)) = some (.bool o.del) ∧ w.cell? ⟨(a.add (k * 3)).block, (a.add (k * 3)).off + 1, none⟩ = some (.string o.key) ∧ w.cell? ⟨(a.add (k * 3)).block, (a.add (k * 3)).off + 2, none⟩ = some (.string o.val) ∧ o.key.size ≤ maxLen ∧ o.val.size ≤ maxLen := by
  obtain ⟨h1, h2, ⟨ao', c', e, h0, hnc, hn, hc⟩, hs⟩ := h
  simp only [Value.slice.injEq] at e
  obtain ⟨rfl, _, rfl⟩ := e
  have hx : L[k]? = some (L[k]'(by omega)) := List.getElem?_eq_getElem (by omega)
  generalize L[k]'(by omega) = o at hx
  cases ao with
  | none => have := (hn rfl).1; omega
  | some a =>
    have hm := hs o (List.mem_of_getElem? hx)
    refine ⟨a, o, rfl, hx, ?_, ?_, ?_, hm.1, hm.2⟩
    · exact hc a rfl (k * 3) _ (by have := ovs_at hx 0 (by omega); rw [Nat.add_zero] at this; rw [this]; rfl)
    · have := hc a rfl _ _ (show (ovs L)[k * 3 + 1]? = some (.string o.key) by rw [ovs_at hx 1 (by omega)]; rfl)
      rw [← Addr.add_add] at this
      exact this
    · have := hc a rfl _ _ (show (ovs L)[k * 3 + 2]? = some (.string o.val) by rw [ovs_at hx 2 (by omega)]; rfl)
      rw [← Addr.add_add] at this
      exact this
def okOp (o : Opm) : Bool := !(o.del && !o.val.toList.isEmpty)
def okOps (L : List Opm) : Bool := L.all okOp && decide (L.length ≤ 1000)
def bulkO (L : List Opm) : Nat := (L.map fun o => 1 + o.key.size + o.val.size).sum
theorem bulkO_cons (o : Opm) (L : List Opm) : bulkO (o :: L) = 1 + o.key.size + o.val.size + bulkO L := by simp [bulkO]
theorem bulkO_append (L M : List Opm) : bulkO (L ++ M) = bulkO L + bulkO M := by simp [bulkO]
theorem bulkO_length (L : List Opm) : L.length ≤ bulkO L := by
  induction L with
  | nil => simp
  | cons o L ih => rw [bulkO_cons, List.length_cons]; omega
theorem bulkO_mem {L : List Opm} {o : Opm} (h : o ∈ L) : 1 + o.key.size + o.val.size ≤ bulkO L := by
  induction L with
  | nil => cases h
  | cons p L ih =>
    rw [bulkO_cons]
    rcases List.mem_cons.1 h with rfl | h
    · omega
    · have := ih h; omega
def GreatO (L : List Opm) (w : World) (e : Ending) (w' : World) : Prop := ∃ b q, e = .returned (.bool b) ∧ w' = w.drewN q ∧ (b = false → bulkO L ≤ 5000)
theorem great_ops (v : Value) (n : Nat) (L : List Opm) (w : World) (hr : Opr w v n L) :
    Calls Tryz.prog 30 #[v] w (GreatO L w) := by
  obtain ⟨ao, c, rfl⟩ := hr.shape
  have HR := Lib.hid hr
  have hm := hr.2.1
  unfold maxLen at hm
  clear hr
  go_enter Tryz.func30, Tryz.ntmps30
  go_wp2_with fail
  go_loopw [3, 4] (fun nv i wr => ∃ k m q : Nat, k ≤ n ∧ i = .int .i64 k ∧ nv = .int .i64 m ∧ m ≤ 15003 ∧ Hid (m ≤ 5000 → bulkO (L.take k) = m) ∧ wr = w.drewN q)
    (fun nv _ _ => 15004 - (intOf nv).toNat)
  case atStart => exact ⟨0, 0, 0, Nat.zero_le _, rfl, rfl, by omega, Lib.hid (fun _ => rfl), rfl⟩
  case round =>
    obtain ⟨k, m, q, hk, rfl, rfl, hmm, hb, hw⟩ := hrel
    by_cases h1 : k < n
    · have h3 : (k : Int) < (n : Int) := by omega
      by_cases h2 : m ≤ 5000
      · have h4 : (m : Int) ≤ 5000 := by omega
        have HR' : Opr wr (.slice ao n c) n L := by rw [hw]; exact HR.out
        obtain ⟨a, o, rfl, ho, c0, c1, c2, s1, s2⟩ := HR'.at h1
        have HS := Lib.hid (And.intro ho hw)
        unfold maxLen at s1 s2
        have hb2 := hb.out h2
        have d1 : ∀ j, (wr.drewN j).cell? ⟨(a.add (k * 3)).block, (a.add (k * 3)).off + 1, none⟩ = some (.string o.key) := fun _ => c1
        have d2 : ∀ j, (wr.drewN j).cell? ⟨(a.add (k * 3)).block, (a.add (k * 3)).off + 2, none⟩ = some (.string o.val) := fun _ => c2
        clear ho hw c0 c1 c2 HR'
        go_wp2_with fail
        go_quiet (fail)
        go_wp2
        have hb3 : bulkO (L.take (k + 1)) = m + (1 + o.key.size + o.val.size) := by rw [take_next HS.out.1, bulkO_append, hb2]; simp [bulkO]
        refine ⟨⟨k + 1, m + 1 + min o.key.size 5001 + min o.val.size 5001, q + nq, by omega, by simp, ?_, by omega, Lib.hid (fun h => by omega), by rw [HS.out.2, World.drewN_drewN]⟩, ?_⟩
        · congr 1; omega
        · simp only [intOf]; omega
      · have h4 : ¬ (m : Int) ≤ 5000 := by omega
        have h5 : (5000 : Int) < (m : Int) := by omega
        have HW := Lib.hid hw
        clear hw
        go_wp2_with fail
        go_ret
        exact ⟨true, q, rfl, HW.out, by intro h; cases h⟩
    · have h3 : ¬ (k : Int) < (n : Int) := by omega
      have HW := Lib.hid hw
      clear hw
      go_wp2_with fail
      go_ret
      refine ⟨_, q, rfl, HW.out, fun h => ?_⟩
      have h5 : ¬ (5000 : Int) < (m : Int) := of_decide_eq_false h
      have h6 := hb.out (by omega)
      have h7 : k = L.length := by have := HR.out.1; omega
      rw [h7, List.take_length] at h6
      omega
theorem text_inj' {s t : ByteArray} (h : s.toList = t.toList) : s = t := by
  rw [ByteArray.toList_eq, ByteArray.toList_eq] at h
  exact Go.WideShapes.bytes_inj (by simpa using h)
end Go.Proofs.YthcdkggkoanjpaaGreatDoor

/- Lists of ops that came in. Numbers and types by name. -/
namespace Go.Proofs.YthcdkggkoanjpaaGreatDoor
set_option maxRecDepth 100000
open Go.ChangeShapes Go.WideShapes Go.ChangeAt Go.RowKit Go.Lib Go.Deep
instance : Inhabited Opm := ⟨⟨false, ⟨#[]⟩, ⟨#[]⟩⟩⟩
theorem cellsOpK : Tryz.prog.cellsOf 65 = 3 := by kernel_rfl
theorem cellsBoolK : Tryz.prog.cellsOf 4 = 1 := by kernel_rfl
theorem cellsStrK : Tryz.prog.cellsOf 9 = 1 := by kernel_rfl
theorem open_op {H : Type} {enc : TypeId × Value → H} {W : World} {base : Nat} {spare : Nat → Bool} {held : Bool} {fuel : Nat} {cs : List Value} {x : DataW H × List MemPlace} (hl : cs.length = 3)
    (h : DataW.trod enc Tryz.prog W base spare held fuel 65 cs = some x) : ∃ o : Opm, cs = ov o ∧ o.key.size ≤ maxLen ∧ o.val.size ≤ maxLen := by
  obtain ⟨xs, n, _, _, _, hxl, hf⟩ := DataW.trod_struct Tryz.underlying65 h
  have g0 : DataW.trod enc Tryz.prog W base spare held n 4 ((cs.drop 0).take (Tryz.prog.cellsOf 4)) = xs[0]? := hf 0 _ rfl
  have g1 : DataW.trod enc Tryz.prog W base spare held n 9 ((cs.drop 1).take (Tryz.prog.cellsOf 9)) = xs[1]? := hf 1 _ rfl
  have g2 : DataW.trod enc Tryz.prog W base spare held n 9 ((cs.drop 2).take (Tryz.prog.cellsOf 9)) = xs[2]? := hf 2 _ rfl
  have hxl3 : xs.length = 3 := hxl
  rw [cellsBoolK] at g0
  rw [cellsStrK] at g1 g2
  match cs, hl with
  | [u0, u1, u2], _ =>
    rw [List.getElem?_eq_getElem (by omega)] at g0 g1 g2
    obtain ⟨b, e0, _⟩ := DataW.trod_bool Tryz.underlying4 g0
    obtain ⟨s, e1, _, z1⟩ := DataW.trod_string Tryz.underlying9 g1
    obtain ⟨t, e2, _, z2⟩ := DataW.trod_string Tryz.underlying9 g2
    refine ⟨⟨b, s, t⟩, ?_, z1, z2⟩
    simp only [List.drop_zero, List.drop_succ_cons, List.take_succ_cons, List.take_zero, List.cons.injEq, and_true] at e0 e1 e2
    rw [e0, e1, e2]
    rfl
theorem ovs_range (y : Nat → Opm) (n j : Nat) (hj : j < n * 3) : (ovs ((List.range n).map y))[j]? = (ov (y (j / 3)))[j % 3]? := by
  have hx : ((List.range n).map y)[j / 3]? = some (y (j / 3)) := by simp [show j / 3 < n by omega]
  have := ovs_at hx (j % 3) (Nat.mod_lt _ (by omega))
  rw [show j / 3 * 3 + j % 3 = j by omega] at this
  exact this
theorem open_ops {H : Type} {enc : TypeId × Value → H} {W : World} {base : Nat} {spare : Nat → Bool} {held : Bool} {fuel : Nat} {a0 : Option Addr} {len cap : Nat} {x : DataW H × List MemPlace}
    (h : DataW.trod enc Tryz.prog W base spare held fuel 52 [.slice a0 len cap] = some x) : ∃ L : List Opm, Opr W (.slice a0 len cap) len L := by
  rcases open_slice Tryz.underlying52 h with ⟨hcs, _⟩ | ⟨a, len', cap', m, n, D, Pl, hcs, _, hl, hm, hmm, _, hx⟩
  · simp only [List.cons.injEq, Value.slice.injEq, and_true] at hcs
    obtain ⟨rfl, rfl, rfl⟩ := hcs
    exact ⟨[], Opr.nil W⟩
  · simp only [List.cons.injEq, Value.slice.injEq, and_true] at hcs
    obtain ⟨rfl, rfl, rfl⟩ := hcs
    have hlm : len ≤ m := by rw [hmm]; split <;> omega
    rw [cellsOpK] at hx
    have each : ∀ i, i < len → ∃ o : Opm, (∀ k, k < 3 → W.cell? (a.add (i * 3 + k)) = (ov o)[k]?) ∧ o.key.size ≤ maxLen ∧ o.val.size ≤ maxLen := by
      intro i hi
      obtain ⟨cs', h1, h2⟩ := hx i (by omega)
      obtain ⟨_, hlen, hcell⟩ := World.cells?_some h1
      obtain ⟨o, rfl, z⟩ := open_op hlen h2
      exact ⟨o, fun k hk => by have := hcell k hk; rw [Addr.add_add] at this; exact this, z⟩
    obtain ⟨y, hy⟩ := choose_lt each
    refine ⟨(List.range len).map y, by simp, Nat.le_trans hl hm, ⟨some a, cap, rfl, by rw [ovs_length]; simp, hl, (fun e => by cases e), fun a' ha j u hj => ?_⟩, fun o ho => ?_⟩
    · cases ha
      have hj1 := (List.getElem?_eq_some_iff.1 hj).1
      rw [ovs_length] at hj1
      simp only [List.length_map, List.length_range] at hj1
      rw [ovs_range y len j hj1] at hj
      have := (hy (j / 3) (by omega)).1 (j % 3) (Nat.mod_lt _ (by omega))
      rw [show j / 3 * 3 + j % 3 = j by omega] at this
      rw [this, hj]
    · simp only [List.mem_map, List.mem_range] at ho
      obtain ⟨i, hi, rfl⟩ := ho
      exact (hy i hi).2
end Go.Proofs.YthcdkggkoanjpaaGreatDoor

/- Lists of lists of ops that are read; Batches. Numbers and types by name. -/
namespace Go.Proofs.YthcdkggkoanjpaaGreatDoor
open Go.RowKit Go.Lib
def OpVals (w : World) (vs : List Value) (LL : List (List Opm)) : Prop :=
  vs.length = LL.length ∧ ∀ (j : Nat) (L : List Opm), LL[j]? = some L → ∃ ao c, vs[j]? = some (Value.slice ao L.length c) ∧ Opr w (.slice ao L.length c) L.length L
theorem OpVals.later {w w' : World} {vs : List Value} {LL : List (List Opm)} (h : OpVals w vs LL) (hg : Grow w w') : OpVals w' vs LL :=
  ⟨h.1, fun j L hj => by obtain ⟨ao, c, e1, e2⟩ := h.2 j L hj; exact ⟨ao, c, e1, e2.later hg⟩⟩
def Obs (w : World) (v : Value) (n : Nat) (LL : List (List Opm)) : Prop := n = LL.length ∧ n ≤ maxLen ∧ ∃ vs : List Value, Reads w v vs ∧ vs.length = n ∧ OpVals w vs LL
theorem Obs.shape {w : World} {v : Value} {n : Nat} {LL : List (List Opm)} (h : Obs w v n LL) : ∃ ao c, v = .slice ao n c := by
  obtain ⟨_, _, vs, ⟨ao, c, rfl, _⟩, hl, _⟩ := h
  exact ⟨ao, c, by rw [hl]⟩
theorem Obs.later {w w' : World} {v : Value} {n : Nat} {LL : List (List Opm)} (h : Obs w v n LL) (hg : Grow w w') : Obs w' v n LL := by
  obtain ⟨h1, h2, vs, hr, hl, hp⟩ := h
  exact ⟨h1, h2, vs, hr.later hg, hl, hp.later hg⟩
theorem Obs.nil (w : World) : Obs w (.slice none 0 0) 0 [] := ⟨rfl, Nat.zero_le _, [], Reads.nil w, rfl, rfl, fun j p h => by cases h⟩
theorem Obs.at {w : World} {ao : Option Addr} {n c : Nat} {LL : List (List Opm)} (h : Obs w (.slice ao n c) n LL) {k : Nat} (hk : k < n) :
    ∃ a L ap cp, ao = some a ∧ LL[k]? = some L ∧ w.cell? (a.add k) = some (.slice ap L.length cp) ∧ Opr w (.slice ap L.length cp) L.length L := by
  obtain ⟨h1, h2, vs, ⟨ao', c', e, _, hn, hc⟩, hl, hp⟩ := h
  simp only [Value.slice.injEq] at e
  obtain ⟨rfl, _, _⟩ := e
  have hx : LL[k]? = some (LL[k]'(by omega)) := List.getElem?_eq_getElem (by omega)
  obtain ⟨ap, cp, e1, e2⟩ := hp.2 k _ hx
  cases ao with
  | none => have := (hn rfl).1; subst this; simp at hl; omega
  | some a => exact ⟨a, _, ap, cp, rfl, hx, hc a rfl k _ e1, e2⟩
end Go.Proofs.YthcdkggkoanjpaaGreatDoor

namespace Go.Proofs.YthcdkggkoanjpaaGreatDoor
open Go.RowKit Go.Lib
theorem Bs.below {w w' : World} {base B : Nat} {v : Value} {n : Nat} {l : List UInt8} (h : Bs w base v n l) (hb : Below B w w') (hB : w.heap.size ≤ B) : Bs w' base v n l := by
  refine ⟨h.1, h.2.1, h.2.2.imp id ?_⟩
  rintro ⟨g, cap, cur, h1, h2, h3, h4⟩
  refine ⟨g, cap, cur, h1, h2, ?_, h4⟩
  rw [hb.block g (by have := (h.2.lt g (by rw [h1]; rfl)).2; omega)]
  exact h3
theorem Bs.empty (w : World) (base : Nat) (hb : base ≤ w.heap.size) : Bs (w.alloc (.cells #[] 5)) base (.slice (some ⟨w.heap.size, 0, none⟩) 0 0) 0 [] :=
  ⟨rfl, rfl, .inr ⟨w.heap.size, 0, #[], rfl, hb, heap_alloc_new w _, Nat.le_refl _, Nat.zero_le _, rfl, rfl⟩⟩
theorem heap_set {w : World} {b : Nat} {cs : Array Value} {t : TypeId} {fr : Nat × Nat} (h : w.heap[b]? = some (.cells cs t fr)) (j : Nat) (v : Value) : (w.setCell ⟨b, j, none⟩ v).heap[b]? = some (.cells (cs.setIfInBounds j v) t fr) := by
  simp [World.setCell, Array.getElem?_modify, h]
theorem below_set {w w' : World} {B g : Nat} (h : Below B w w') (hg : B ≤ g) (j : Nat) (v : Value) : Below B w (w'.setCell ⟨g, j, none⟩ v) :=
  ⟨h.os, h.tape, h.output, by simpa [World.setCell] using h.size, fun k hk => (Below.heap_setCell _ _ _ _ (by show k ≠ g; omega)).trans (h.block k hk)⟩
end Go.Proofs.YthcdkggkoanjpaaGreatDoor
