/- The checker of interfaces: a name once, a label that there is. Numbers and types by name. -/
import Derived.Test.YtlgfijjkbomejaaGreatDoorMvs
import Derived.Test.YtlgfijjkbomejaaGreatDoorPay
import Derived.Maps.OwnSet
/- The checker of interfaces: what it has told, a diagnostic more, a label. Numbers and types by name. -/
namespace Go.Proofs.YtlgfijjkbomejaaGreatDoor
open Go.RowKit Go.Lib Go.Sort
set_option maxRecDepth 100000

/-- A diagnostic, but for whose it is. -/
structure Dg where
  code : Int
  name : B8
  pos : Nat
  deriving DecidableEq
def dgC (md : B8) (d : Dg) : List Value := [.string (tx md), .int .i64 (d.pos : Int), .int .i64 d.code, .string (tx d.name)]
def dgs (md : B8) (D : List Dg) : List Value := D.flatMap (dgC md)
theorem dgs_snoc (md : B8) (D : List Dg) (d : Dg) : dgs md (D ++ [d]) = dgs md D ++ dgC md d := by simp [dgs]
theorem dgC_one (md : B8) (d : Dg) : ∀ u ∈ dgC md d, u.oneCell' = true := by
  intro u hu
  simp only [dgC, List.mem_cons, List.not_mem_nil, or_false] at hu
  rcases hu with rfl | rfl | rfl | rfl <;> rfl
theorem elemDiag : Elem 33 93 (.agg #[.string ⟨#[]⟩, .int .i64 0, .int .i64 0, .string ⟨#[]⟩]) 4 48 := ⟨Tryz.underlying33, by kernel_rfl, by decide, by decide⟩
def OwnG (w : World) (base : Nat) (md : B8) (v : Value) (n : Nat) (D : List Dg) : Prop := n = D.length ∧ w.ownsRow base 93 4 v n (dgs md D)
theorem OwnG.shape {w : World} {base : Nat} {md : B8} {v : Value} {n : Nat} {D : List Dg} (h : OwnG w base md v n D) : ∃ ao c, v = .slice ao n c := by
  rcases h.2.2 with ⟨rfl, h0⟩ | ⟨g, cap, cur, rfl, _⟩
  · exact ⟨none, 0, by rw [h0]⟩
  · exact ⟨_, _, rfl⟩
theorem dg_lit (W : World) (md : B8) (d : Dg) : Cells (W.alloc (.cells #[.string (tx md), .int .i64 (d.pos : Int), .int .i64 d.code, .string (tx d.name)] 93)) (.slice (some ⟨W.heap.size, 0, none⟩) 1 1) 4 1 (dgC md d) :=
  Cells.lit W (dgC md d) 93 (0, 0) 4 1 rfl
theorem own_ge {w : World} {base e size : Nat} {v : Value} {n : Nat} {xs : List Value} (h : w.ownsRow base e size v n xs) {k : Nat} (hk : v.ownBlock = some k) : base ≤ k ∧ k < w.heap.size := by
  rcases h.2 with ⟨rfl, _⟩ | ⟨g, cap, cur, rfl, hb, hg, _⟩
  · cases hk
  · cases hk
    exact ⟨hb, (Array.getElem?_eq_some_iff.1 hg).1⟩

/-- As step_append_gen, for longer rows. -/
theorem step_append_big {sl el : TypeId} {z : Value} {size bytes : Nat} (E : Elem sl el z size bytes) {ops : Array Oper} {o : Oper} {a : Act} {w : World} {K : Act → World → Prop} {Q : Exit → Act → World → Prop} {F : Prop} (hgd : o.guard = none) (s x : Operand)
    (ho : o.op = .call { callee := .builtin .append, args := #[s, x], argTypes := #[sl, sl] })
    (base : Nat) (v : Value) (n : Nat) (xs : List Value) (hs : a.eval s = v) (hown : w.ownsRow base el size v n xs) (vb : Value) (m : Nat) (news : List Value) (hx : a.eval x = vb) (hr : Cells w vb size m news) (h1 : ∀ u ∈ news, u.oneCell' = true)
    (p : Nat) (hp : p = n + m) (h63 : Hid (p ≤ 100000000000)) (hby : bytes ≤ 1000) (hbase : base ≤ w.heap.size)
    (h : ∀ ao c w', w'.ownsRow base el size (.slice ao p c) p (xs ++ news) → Below base w w' → w.grownBy w' v.ownBlock → ((Value.slice ao p c).ownBlock = v.ownBlock ∨ (Value.slice ao p c).ownBlock = some w.heap.size) → K (a.put o.dst (.slice ao p c)) w') :
    if Region.wanted o (yielded ops a.tmps) = true then Oper.wp Tryz.prog o a w K Q else F := by
  subst hp
  have hb := h63.out
  have hw : Region.wanted o (yielded ops a.tmps) = true := by simp [Region.wanted, hgd]
  rw [if_pos hw]
  obtain ⟨ao, c, w', hr', h2, h3, h4⟩ := run_append_gen E o.type base v n xs w hown vb m news hr h1 (by unfold maxLen; omega) (Nat.le_trans (Nat.mul_le_mul hb hby) (by decide)) hbase
  unfold Oper.wp execOp
  simp only [ho, resolve, invoke, builtin, Sem.run_bind, Sem.run_pure, Result.andThen_ok, List.map_toArray, List.map_cons, List.map_nil, hs, hx, hr']
  exact h ao c w' h2 (below_grown_own hown h3 hbase) h3 h4

/-- A checker in memory: whose, its labels, what it has told. -/
structure CkAt (w : World) (lo b : Nat) (md : B8) (al : Value) (nl : Nat) (L : List B8) (vd : Value) (nd : Nat) (D : List Dg) : Prop where
  blk : w.heap[b]? = some (.cells #[.string (tx md), al, vd] 127)
  lab : OwnS w 0 al nl L
  labB : b < lo ∧ ∀ k, al.ownBlock = some k → k < lo ∧ k ≠ b
  lol : lo ≤ w.heap.size
  own : OwnG w lo md vd nd D
theorem CkAt.ge {w : World} {lo b : Nat} {md : B8} {al : Value} {nl : Nat} {L : List B8} {vd : Value} {nd : Nat} {D : List Dg} (h : CkAt w lo b md al nl L vd nd D) {k : Nat} (hk : vd.ownBlock = some k) : b + 1 ≤ k ∧ k < w.heap.size := by
  have h1 := own_ge h.own.2 hk
  have h2 := h.labB.1
  omega
theorem CkAt.chg {w w' : World} {lo b : Nat} {md : B8} {al : Value} {nl : Nat} {L : List B8} {vd : Value} {nd : Nat} {D : List Dg} {F : List Nat} (h : CkAt w lo b md al nl L vd nd D) (hc : Chg F w w') (hb : b ∉ F) (hl : ∀ k, al.ownBlock = some k → k ∉ F) (hd : ∀ k, vd.ownBlock = some k → k ∉ F) : CkAt w' lo b md al nl L vd nd D :=
  ⟨(hc.block _ (Array.getElem?_eq_some_iff.1 h.blk).1 hb).trans h.blk, h.lab.chg hc hl, h.labB, Nat.le_trans h.lol hc.size, h.own.1, own_chg h.own.2 hc hd⟩
theorem CkAt.later {w w' : World} {lo b : Nat} {md : B8} {al : Value} {nl : Nat} {L : List B8} {vd : Value} {nd : Nat} {D : List Dg} (h : CkAt w lo b md al nl L vd nd D) (hg : Grow w w') : CkAt w' lo b md al nl L vd nd D :=
  h.chg (F := []) (Chg.of_below hg) (by simp) (by simp) (by simp)
theorem CkAt.lt {w : World} {lo b : Nat} {md : B8} {al : Value} {nl : Nat} {L : List B8} {vd : Value} {nd : Nat} {D : List Dg} (h : CkAt w lo b md al nl L vd nd D) : b < w.heap.size := (Array.getElem?_eq_some_iff.1 h.blk).1
/-- What it tells. -/
def CkTold (w : World) (lo b : Nat) (md : B8) (al : Value) (nl : Nat) (L : List B8) (vd : Value) (D : List Dg) (e : Ending) (w' : World) : Prop :=
  e = .returned (.tuple #[]) ∧ ∃ ad n c, CkAt w' lo b md al nl L (.slice ad n c) n D ∧ Chg (b :: rowF vd) w w' ∧ FromRow w vd (.slice ad n c)

set_option maxHeartbeats 4000000 in
theorem tell_walk (lo b : Nat) (md : B8) (al : Value) (nl : Nat) (L : List B8) (vd : Value) (nd : Nat) (D : List Dg) (d : Dg) (w : World) (h : CkAt w lo b md al nl L vd nd D) (hn : Hid (nd + 1 ≤ 100000000000)) :
    Calls Tryz.prog 137 #[.pointer (some ⟨b, 0, none⟩), .int .i64 d.code, .string (tx d.name), .int .i64 (d.pos : Int)] w (CkTold w lo b md al nl L vd (D ++ [d])) := by
  obtain ⟨ad, cd, rfl⟩ := h.own.shape
  obtain ⟨a2, c2, rfl⟩ := h.lab.shape
  have H := Lib.hid h
  have c0 : w.cell? ⟨b, 0, none⟩ = some (.string (tx md)) := cellsN h.blk 0 _ rfl
  have cc2 : w.cell? ⟨b, 2, none⟩ = some (.slice ad nd cd) := cellsN h.blk 2 _ rfl
  have k0 : ∀ o, (w.alloc o).cell? ⟨b, 0, none⟩ = some (.string (tx md)) := fun o => ((Below.refl _ w).alloc (Nat.le_refl _) o : Grow w (w.alloc o)).cell h.lt |>.trans c0
  have k2 : ∀ o, (w.alloc o).cell? ⟨b, 2, none⟩ = some (.slice ad nd cd) := fun o => ((Below.refl _ w).alloc (Nat.le_refl _) o : Grow w (w.alloc o)).cell h.lt |>.trans cc2
  have HO : Hid (∀ o, (w.alloc o).ownsRow lo 93 4 (.slice ad nd cd) nd (dgs md D)) := Lib.hid fun o => own_chg (F := []) h.own.2 (Chg.of_below ((Below.refl _ w).alloc (Nat.le_refl _) o)) (by simp)
  have HC := Lib.hid (dg_lit w md d)
  have hbw := Lib.hid h.lol
  have HR : Hid (∀ (ao : Option Addr) (c : Nat) (o : Obj) (w6 : World), w6.ownsRow lo 93 4 (.slice ao (nd + 1) c) (nd + 1) (dgs md D ++ dgC md d) → (w.alloc o).drew.grownBy w6 (Value.slice ad nd cd).ownBlock → ((Value.slice ao (nd + 1) c).ownBlock = (Value.slice ad nd cd).ownBlock ∨ (Value.slice ao (nd + 1) c).ownBlock = some (w.alloc o).heap.size) →
      (w6.heap[b]? = some (.cells #[.string (tx md), .slice a2 nl c2, .slice ad nd cd] 127)) ∧ CkTold w lo b md (.slice a2 nl c2) nl L (.slice ad nd cd) (D ++ [d]) (.returned (.tuple #[])) (w6.setCell ⟨b, 2, none⟩ (.slice ao (nd + 1) c))) := Lib.hid fun ao c o w6 ho hg hf => by
    have hlt := h.lt
    have hnb : ∀ k, (Value.slice ad nd cd).ownBlock = some k → k ≠ b := fun k hk => by have := (h.ge hk).1; omega
    have hc6 : Chg (rowF (.slice ad nd cd)) w w6 := (Chg.of_below (F := rowF (.slice ad nd cd)) (below_drewN ((Below.refl _ w).alloc (Nat.le_refl _) o) 1)).trans' (Chg.of_grown (F := rowF (.slice ad nd cd)) hg (fun k hk => rowF_mem.2 hk)) (fun x hx => .inl hx)
    have hb6 : w6.heap[b]? = some (.cells #[.string (tx md), .slice a2 nl c2, .slice ad nd cd] 127) := (hc6.block b hlt (fun hm => hnb b (rowF_mem.1 hm) rfl)).trans h.blk
    have hlt6 := (Array.getElem?_eq_some_iff.1 hb6).1
    have hc7 : Chg (b :: rowF (.slice ad nd cd)) w (w6.setCell ⟨b, 2, none⟩ (.slice ao (nd + 1) c)) := (hc6.mono (fun x hx => List.mem_cons_of_mem _ hx)).set (.inl (by simp)) 2 _
    have hfr : FromRow w (.slice ad nd cd) (.slice ao (nd + 1) c) := by
      rcases hf with h1 | h1
      · exact .inl h1
      · refine .inr fun k hk => ?_
        rw [h1] at hk
        cases hk
        simp
    refine ⟨hb6, rfl, ao, nd + 1, c, ⟨heap_setCell_same _ _ _ _ _ _ hb6, h.lab.chg hc7 (fun k hk hm => ?_), h.labB, Nat.le_trans h.lol hc7.size, by rw [h.own.1]; simp, ?_⟩, hc7, hfr⟩
    · have h1 := h.labB.2 k hk
      rcases List.mem_cons.1 hm with rfl | hm
      · omega
      · have := (own_ge h.own.2 (rowF_mem.1 hm)).1
        omega
    · rw [dgs_snoc]
      exact own_chg (F := [b]) ho ((Chg.refl [b] w6).set (.inl (by simp)) 2 _) (fun k hk hm => by
        have := (own_ge ho hk).1
        have := h.labB.1
        simp only [List.mem_singleton] at hm
        omega)
  clear h
  go_enter Tryz.func137, Tryz.ntmps137
  go_wp2_with fail
  go_region_law (refine step_append_big elemDiag rfl (.tmp 12) (.tmp 21) rfl lo _ nd (dgs md D) (by simp [Act.eval]) (HO.out _) _ 1 (dgC md d) (by simp [Act.eval]) HC.out (dgC_one md d) (nd + 1) rfl hn (by decide) (by have := hbw.out; simp; omega) ?_; intro ao6 c6 w6 hown6 hb6 hg6 ho6; have HE := Lib.hid (HR.out ao6 c6 _ w6 hown6 hg6 ho6); clear hown6 hb6 hg6 ho6; have f2 := frozen_of_row w6 b 2 _ _ HE.out.1; have e2 : w6.cell? ⟨b, 2, none⟩ = some (.slice ad nd cd) := cellsN HE.out.1 2 _ rfl)
  all_goals (go_end0; exact HE.out.2)

end Go.Proofs.YtlgfijjkbomejaaGreatDoor

namespace Go.Proofs.YtlgfijjkbomejaaGreatDoor
open Go.RowKit Go.Lib Go.Sort Go.Maps
open Go.WideMaps
set_option maxRecDepth 100000

theorem lawS : Keyed Tryz.prog 9 := string_keyed Tryz.underlying9
/-- A set of names in memory. -/
def SetM (w : World) (s : Nat) (N : List B8) : Prop := ∃ (n : Nat) (D : DataW Unit), w.ownsMap Tryz.prog 9 unitElem s n D ∧ n ≤ N.length ∧ IsMap D ∧ ∀ k, Maps.has D (.string k) = decide (k ∈ N)
theorem SetM.made (w : World) : SetM (w.alloc (.map #[] 0)) w.heap.size [] :=
  ⟨0, .map [], World.ownsMap_made w _ _ _, Nat.le_refl _, ⟨[], rfl⟩, fun k => by simp [Maps.has]⟩
theorem SetM.lt {w : World} {s : Nat} {N : List B8} (h : SetM w s N) : s < w.heap.size := by
  obtain ⟨n, D, h1, _⟩ := h
  exact h1.lt
theorem SetM.chg {w w' : World} {s : Nat} {N : List B8} {F : List Nat} (h : SetM w s N) (hc : Chg F w w') (hs : s ∉ F) : SetM w' s N := by
  obtain ⟨n, D, ⟨es, clock, h1, h2⟩, h3⟩ := h
  exact ⟨n, D, ⟨es, clock, (hc.block s (Array.getElem?_eq_some_iff.1 h1).1 hs).trans h1, h2⟩, h3⟩
theorem SetM.put {w' : World} {s n : Nat} {D : DataW Unit} {N : List B8} {k : B8} (h : w'.ownsMap Tryz.prog 9 unitElem s (n + 1) (D.put (.string k) (.agg []))) (hn : n ≤ N.length) (hD : IsMap D) (hh : ∀ k, Maps.has D (.string k) = decide (k ∈ N)) : SetM w' s (N ++ [k]) := by
  refine ⟨n + 1, _, h, by simp; omega, h.isMap, fun j => ?_⟩
  by_cases e : j = k
  · subst e
    rw [has_put_same hD (by exact ⟨⟩)]
    simp
  · rw [has_put_other (by simpa using e), hh]
    simp [e]

theorem SetM.ne_cells {w : World} {s : Nat} {N : List B8} (h : SetM w s N) {k : Nat} {cs : Array Value} {t : TypeId} {fr : Nat × Nat} (hk : w.heap[k]? = some (.cells cs t fr)) : k ≠ s := by
  rintro rfl
  obtain ⟨n, D, ⟨es, clock, h1, _⟩, _⟩ := h
  rw [h1] at hk
  cases hk
theorem own_cells {w : World} {base e size : Nat} {v : Value} {n : Nat} {xs : List Value} (h : w.ownsRow base e size v n xs) {k : Nat} (hk : v.ownBlock = some k) : ∃ cur, w.heap[k]? = some (.cells cur e (0, 0)) := by
  rcases h.2 with ⟨rfl, _⟩ | ⟨g, cap, cur, rfl, hb, hg, _⟩
  · cases hk
  · cases hk
    exact ⟨cur, hg⟩
theorem CkAt.notS {w : World} {lo b : Nat} {md : B8} {al : Value} {nl : Nat} {L : List B8} {vd : Value} {nd : Nat} {D : List Dg} (h : CkAt w lo b md al nl L vd nd D) {s : Nat} {N : List B8} (hs : SetM w s N) : s ∉ b :: rowF vd ∧ (∀ k, al.ownBlock = some k → k ≠ s) := by
  refine ⟨fun hm => ?_, fun k hk => ?_⟩
  · rcases List.mem_cons.1 hm with rfl | hm
    · exact hs.ne_cells h.blk rfl
    · obtain ⟨cur, hc⟩ := own_cells h.own.2 (rowF_mem.1 hm)
      exact hs.ne_cells hc rfl
  · obtain ⟨cur, hc⟩ := own_cells h.lab.2 hk
    exact hs.ne_cells hc

def onceD (N : List B8) (name : B8) (pos : Nat) : List Dg := if name ∈ N then [⟨6, name, pos⟩] else []
/-- What a name once tells. -/
def OnceTold (w : World) (lo b : Nat) (md : B8) (al : Value) (nl : Nat) (L : List B8) (vd : Value) (D : List Dg) (s : Nat) (N : List B8) (e : Ending) (w' : World) : Prop :=
  e = .returned (.tuple #[]) ∧ ∃ ad n c, CkAt w' lo b md al nl L (.slice ad n c) n D ∧ SetM w' s N ∧ Chg (s :: b :: rowF vd) w w' ∧ FromRow w vd (.slice ad n c)

theorem zero_unit (w : World) : (zeroValue 160).run Tryz.prog w = .ok (.agg #[]) w := Tryz.zeroValue160 w
set_option maxHeartbeats 4000000 in
theorem once_walk (lo b : Nat) (md : B8) (al : Value) (nl : Nat) (L : List B8) (vd : Value) (nd : Nat) (D : List Dg) (s : Nat) (N : List B8) (name : B8) (pos : Nat) (w : World) (h : CkAt w lo b md al nl L vd nd D) (hs : SetM w s N) (hn : Hid (nd + 1 ≤ 100000000000)) (hN : N.length < 1000000) (hk : name.length ≤ maxLen) :
    Calls Tryz.prog 107 #[.pointer (some ⟨b, 0, none⟩), .map (some s), .string (tx name), .int .i64 (pos : Int)] w (OnceTold w lo b md al nl L vd (D ++ onceD N name pos) s (N ++ [name])) := by
  have hkey : keyOf Tryz.prog 9 (.string (tx name)) = some (.string name) := by
    have := keyOf_string_mk Tryz.underlying9 (s := tx name) (by rw [tx_size]; exact hk)
    simpa [tx] using this
  obtain ⟨ad, cd, rfl⟩ := h.own.shape
  obtain ⟨w1, hw1⟩ : ∃ w1, w.alloc (.cells #[] 160) = w1 := ⟨_, rfl⟩
  have hg1 : Grow w w1 := by rw [← hw1]; exact (Below.refl _ w).alloc (Nat.le_refl _) _
  have h1 := h.later hg1
  have hs1 := hs.chg (F := []) (Chg.of_below hg1) (by simp)
  obtain ⟨z1, z2⟩ := h.notS hs
  have HZ := Lib.hid (And.intro z1 z2)
  obtain ⟨n0, D0, m1, m2, m3, m4⟩ := hs
  have HM1 : Hid (w1.ownsMap Tryz.prog 9 unitElem s n0 D0) := Lib.hid (by rw [← hw1]; exact m1.alloc _)
  have mh := m4 name
  have HM := Lib.hid (And.intro m1 (And.intro m2 (And.intro m3 m4)))
  have FN : Hid (n0 < maxLen) := Lib.hid (by unfold maxLen; omega)
  obtain ⟨bb, hbb⟩ : ∃ bb, decide (name ∈ N) = bb := ⟨_, rfl⟩
  rw [hbb] at mh
  have HS := Lib.hid (And.intro hs1 hbb)
  have HG := Lib.hid hg1
  have HL : Hid (∀ (ad' : Option Addr) (n' c' : Nat) (D' : List Dg) (w2 : World), CkAt w2 lo b md al nl L (.slice ad' n' c') n' D' → SetM w2 s N → Chg (b :: rowF (.slice ad nd cd)) w w2 → FromRow w (.slice ad nd cd) (.slice ad' n' c') → ∀ (n1 : Nat) (D1 : DataW Unit) (w3 : World), w3.ownsMap Tryz.prog 9 unitElem s (n1 + 1) (D1.put (.string name) (.agg [])) → n1 ≤ N.length → IsMap D1 → (∀ k, Maps.has D1 (.string k) = decide (k ∈ N)) → w2.grownBy w3 (some s) → OnceTold w lo b md al nl L (.slice ad nd cd) D' s (N ++ [name]) (.returned (.tuple #[])) w3) := Lib.hid fun ad' n' c' D' w2 q1 q2 q3 q4 n1 D1 w3 q5 q6 q7 q8 q9 => by
    obtain ⟨z1, z2⟩ := q1.notS q2
    have c3 : Chg [s] w2 w3 := Chg.of_grown q9 (fun k hk => by cases hk; simp)
    refine ⟨rfl, ad', n', c', q1.chg c3 (fun hm => z1 (by simp at hm; simp [hm])) (fun k hk hm => z2 k hk (by simpa using hm)) (fun k hk hm => z1 (by simp at hm; subst hm; exact List.mem_cons_of_mem _ (rowF_mem.2 hk))), SetM.put q5 q6 q7 q8, ?_, q4⟩
    exact (q3.mono (fun x hx => List.mem_cons_of_mem _ hx)).trans' c3 (fun x hx => .inl (by simp at hx; simp [hx]))
  cases bb with
  | false =>
    have hoD : onceD N name pos = [] := by unfold onceD; rw [if_neg (of_decide_eq_false HS.out.2)]
    rw [hoD, List.append_nil]
    have H1 := Lib.hid h1
    clear m1 m2 m3 m4 h1 hs1 hg1 h hbb hoD
    go_enter Tryz.func107, Tryz.ntmps107
    go_wp2_with (first | (at_lookup; refine wpList_lookup_own_unit _ rfl _ _ 162 rfl 9 160 lawS Tryz.underlying162 (zero_unit _) s n0 D0 rfl HM.out.1 _ _ rfl hkey ?_) | (at_mapUpdate; refine wpList_mapUpdate_own _ rfl _ _ _ 162 rfl 9 160 lawS Tryz.underlying162 unitElem s n0 D0 rfl HM1.out FN.out _ _ (.string name) rfl rfl hkey _ [] unitElem_mk ?_; intro w3 hown3 hgrow3; have H3 := Lib.hid (And.intro hown3 hgrow3); clear hown3 hgrow3))
    go_end0
    exact HL.out ad nd cd D w1 H1.out HS.out.1 (Chg.of_below HG.out) (.inl rfl) n0 D0 w3 H3.out.1 HM.out.2.1 HM.out.2.2.1 HM.out.2.2.2 H3.out.2
  | true =>
    have hoD : onceD N name pos = [⟨6, name, pos⟩] := by unfold onceD; rw [if_pos (of_decide_eq_true HS.out.2)]
    rw [hoD]
    have P := tell_walk lo b md al nl L _ nd D ⟨6, name, pos⟩ w1 h1 hn
    clear m1 m2 m3 m4 h1 hs1 hg1 h hbb hoD z1 z2
    go_enter Tryz.func107, Tryz.ntmps107
    go_wp2_with (first | (at_lookup; refine wpList_lookup_own_unit _ rfl _ _ 162 rfl 9 160 lawS Tryz.underlying162 (zero_unit _) s n0 D0 rfl HM.out.1 _ _ rfl hkey ?_) | (go_at_call 137; refine P.mono ?_; rintro e w2 ⟨rfl, ad2, n2, c2, k1, k2, k3⟩; have k4 := HS.out.1.chg k2 HZ.out.1; obtain ⟨n1, D1, j1, j2, j3, j4⟩ := k4; have H2 := Lib.hid (And.intro k1 (And.intro k2 (And.intro k3 (And.intro j1 (And.intro j2 (And.intro j3 (And.intro j4 (show Hid (n1 < maxLen) from Lib.hid (by unfold maxLen; omega))))))))); clear k1 k2 k3 j1 j2 j3 j4) | (at_mapUpdate; refine wpList_mapUpdate_own _ rfl _ _ _ 162 rfl 9 160 lawS Tryz.underlying162 unitElem s n1 D1 rfl H2.out.2.2.2.1 H2.out.2.2.2.2.2.2.2.out _ _ (.string name) rfl rfl hkey _ [] unitElem_mk ?_; intro w3 hown3 hgrow3; have H3 := Lib.hid (And.intro hown3 hgrow3); clear hown3 hgrow3))
    go_end0
    have k2 : Chg (b :: rowF (.slice ad nd cd)) w w2 := (Chg.of_below (F := b :: rowF (.slice ad nd cd)) HG.out).trans' H2.out.2.1 (fun x hx => .inl hx)
    have k3 : FromRow w (.slice ad nd cd) (.slice ad2 n2 c2) := by
      rcases H2.out.2.2.1 with h1 | h1
      · exact .inl h1
      · exact .inr fun k hk => Nat.le_trans HG.out.size (h1 k hk)
    exact HL.out ad2 n2 c2 _ w2 H2.out.1 ⟨n1, D1, H2.out.2.2.2.1, H2.out.2.2.2.2.1, H2.out.2.2.2.2.2.1, H2.out.2.2.2.2.2.2.1⟩ k2 k3 n1 D1 w3 H3.out.1 H2.out.2.2.2.2.1 H2.out.2.2.2.2.2.1 H2.out.2.2.2.2.2.2.1 H3.out.2

def labD (L : List B8) (name : B8) (pos : Nat) : List Dg := if name ∈ L then [] else [⟨7, name, pos⟩]
set_option maxHeartbeats 4000000 in
theorem label_walk (lo b : Nat) (md : B8) (al : Value) (nl : Nat) (L : List B8) (vd : Value) (nd : Nat) (D : List Dg) (name : B8) (pos : Nat) (w : World) (h : CkAt w lo b md al nl L vd nd D) (hn : Hid (nd + 1 ≤ 100000000000)) (hl : nl ≤ 100000) (hR : RiseT L) :
    Calls Tryz.prog 108 #[.pointer (some ⟨b, 0, none⟩), .string (tx name), .int .i64 (pos : Int)] w (CkTold w lo b md al nl L vd (D ++ labD L name pos)) := by
  obtain ⟨ad, cd, rfl⟩ := h.own.shape
  obtain ⟨a2, c2, rfl⟩ := h.lab.shape
  have c1 : w.cell? ⟨b, 1, none⟩ = some (.slice a2 nl c2) := cellsN h.blk 1 _ rfl
  have P := has_str 0 a2 nl c2 L name w h.lab hl hR
  have H := Lib.hid h
  by_cases hm : name ∈ L
  · have hoD : labD L name pos = [] := if_pos hm
    rw [hoD, List.append_nil]
    rw [decide_eq_true hm] at P
    clear h hm hR hoD
    go_enter Tryz.func108, Tryz.ntmps108
    go_wp2_with (go_at_call 60; refine P.mono ?_; rintro e w' ⟨rfl, q, rfl⟩)
    go_end0
    exact ⟨rfl, ad, nd, cd, H.out.later (below_drewN (Grow.refl w) q), Chg.of_below (below_drewN (Grow.refl w) q), .inl rfl⟩
  · have hoD : labD L name pos = [⟨7, name, pos⟩] := if_neg hm
    rw [hoD]
    rw [decide_eq_false hm] at P
    have P2 := Lib.hid (fun q => tell_walk lo b md _ nl L _ nd D ⟨7, name, pos⟩ (w.drewN q) (h.later (below_drewN (Grow.refl w) q)) hn)
    clear h hm hR hoD
    go_enter Tryz.func108, Tryz.ntmps108
    go_wp2_with (first | (go_at_call 60; refine P.mono ?_; rintro e w' ⟨rfl, q, rfl⟩) | (go_at_call 137; refine (P2.out q).mono ?_; rintro e w2 ⟨rfl, ad2, n2, c3, k1, k2, k3⟩; have H2 := Lib.hid (And.intro k1 (And.intro k2 k3)); clear k1 k2 k3))
    go_end0
    exact ⟨rfl, ad2, n2, c3, H2.out.1, (Chg.of_below (F := b :: rowF (.slice ad nd cd)) (below_drewN (Grow.refl w) q)).trans' H2.out.2.1 (fun x hx => .inl hx), H2.out.2.2⟩

end Go.Proofs.YtlgfijjkbomejaaGreatDoor
