/- Lists of nodes; the reference's two and num. Numbers and types by name. -/
import Derived.Test.YtlgfijjkbomejaaDoorPan
import Derived.Test.YtlgfijjkbomejaaDoorChg
/- The reference's reader in memory; here, is, take, fail, want, open, name, qname. Numbers and types by name. -/
namespace Go.Proofs.YtlgfijjkbomejaaDoor
open Go.RowKit Go.Lib
set_option maxRecDepth 100000

/-- A reader's cells. -/
structure RdS (w : World) (b : Nat) (vl : Value) (s : PS) : Prop where
  c0 : w.cell? ⟨b, 0, none⟩ = some vl
  c1 : w.cell? ⟨b, 1, none⟩ = some (.int .i64 s.i)
  c2 : w.cell? ⟨b, 2, none⟩ = some (.int .i64 s.deep)
  c3 : w.cell? ⟨b, 3, none⟩ = some (.int .i64 s.e)
  c4 : w.cell? ⟨b, 4, none⟩ = some (.int .i64 s.pos)
  fz : ∀ k, w.frozen? ⟨b, k, none⟩ = false
theorem ne_off {b j k : Nat} (h : j ≠ k) : (⟨b, j, none⟩ : Addr) ≠ ⟨b, k, none⟩ := by intro e; cases e; exact h rfl
theorem RdS.set1 {w : World} {b : Nat} {vl : Value} {s : PS} (h : RdS w b vl s) (i : Nat) : RdS (w.setCell ⟨b, 1, none⟩ (.int .i64 (i : Int))) b vl { s with i := i } :=
  ⟨(World.cell?_setCell_other w _ _ _ (ne_off (by decide))).trans h.c0, World.cell?_setCell_same w _ _ h.c1, (World.cell?_setCell_other w _ _ _ (ne_off (by decide))).trans h.c2, (World.cell?_setCell_other w _ _ _ (ne_off (by decide))).trans h.c3, (World.cell?_setCell_other w _ _ _ (ne_off (by decide))).trans h.c4, fun k => by rw [World.frozen?_setCell]; exact h.fz k⟩
theorem RdS.set2 {w : World} {b : Nat} {vl : Value} {s : PS} (h : RdS w b vl s) (d : Nat) : RdS (w.setCell ⟨b, 2, none⟩ (.int .i64 (d : Int))) b vl { s with deep := d } :=
  ⟨(World.cell?_setCell_other w _ _ _ (ne_off (by decide))).trans h.c0, (World.cell?_setCell_other w _ _ _ (ne_off (by decide))).trans h.c1, World.cell?_setCell_same w _ _ h.c2, (World.cell?_setCell_other w _ _ _ (ne_off (by decide))).trans h.c3, (World.cell?_setCell_other w _ _ _ (ne_off (by decide))).trans h.c4, fun k => by rw [World.frozen?_setCell]; exact h.fz k⟩
theorem RdS.set3 {w : World} {b : Nat} {vl : Value} {s : PS} (h : RdS w b vl s) (e : Int) : RdS (w.setCell ⟨b, 3, none⟩ (.int .i64 e)) b vl { s with e := e } :=
  ⟨(World.cell?_setCell_other w _ _ _ (ne_off (by decide))).trans h.c0, (World.cell?_setCell_other w _ _ _ (ne_off (by decide))).trans h.c1, (World.cell?_setCell_other w _ _ _ (ne_off (by decide))).trans h.c2, World.cell?_setCell_same w _ _ h.c3, (World.cell?_setCell_other w _ _ _ (ne_off (by decide))).trans h.c4, fun k => by rw [World.frozen?_setCell]; exact h.fz k⟩
theorem RdS.set4 {w : World} {b : Nat} {vl : Value} {s : PS} (h : RdS w b vl s) (p : Nat) : RdS (w.setCell ⟨b, 4, none⟩ (.int .i64 (p : Int))) b vl { s with pos := p } :=
  ⟨(World.cell?_setCell_other w _ _ _ (ne_off (by decide))).trans h.c0, (World.cell?_setCell_other w _ _ _ (ne_off (by decide))).trans h.c1, (World.cell?_setCell_other w _ _ _ (ne_off (by decide))).trans h.c2, (World.cell?_setCell_other w _ _ _ (ne_off (by decide))).trans h.c3, World.cell?_setCell_same w _ _ h.c4, fun k => by rw [World.frozen?_setCell]; exact h.fz k⟩
theorem RdS.chg {w w' : World} {b : Nat} {vl : Value} {s : PS} {F : List Nat} (h : RdS w b vl s) (hc : Chg F w w') (hb : b ∉ F) : RdS w' b vl s :=
  ⟨hc.cell h.c0 hb, hc.cell h.c1 hb, hc.cell h.c2 hb, hc.cell h.c3 hb, hc.cell h.c4 hb, fun k => (World.frozen?_of_block (a := ⟨b, k, none⟩) (hc.block b (World.block_lt_of_cell? w _ h.c0) hb)).trans (h.fz k)⟩

/-- A reader over tokens that lie below it. -/
structure Rdr (w0 w : World) (b n : Nat) (vl : Value) (L : List Tk) (s : PS) : Prop where
  r : RdS w b vl s
  t : Tkr w0 vl n L
  lo : w0.heap.size ≤ b
  b : Below w0.heap.size w0 w
  lt : s.i < L.length
  ok : TokL L
  deep : s.deep ≤ 1000
theorem Rdr.chg {w0 w w' : World} {b n : Nat} {vl : Value} {L : List Tk} {s s' : PS} {F : List Nat} (h : Rdr w0 w b n vl L s) (hc : Chg F w w') (hF : ∀ x ∈ F, b ≤ x) (hr : RdS w' b vl s') (hl : s'.i < L.length) (hd : s'.deep ≤ 1000) : Rdr w0 w' b n vl L s' :=
  ⟨hr, h.t, h.lo, h.b.trans (hc.below (Nat.le_trans h.b.size (Nat.le_refl _)) fun x hx => Nat.le_trans h.lo (hF x hx)), hl, h.ok, hd⟩
theorem Rdr.blt {w0 w : World} {b n : Nat} {vl : Value} {L : List Tk} {s : PS} (h : Rdr w0 w b n vl L s) : b < w.heap.size := World.block_lt_of_cell? w _ h.r.c0
/-- The token that stands there. -/
theorem Rdr.cur {w0 w w1 : World} {b n : Nat} {vl : Value} {L : List Tk} {s : PS} (h : Rdr w0 w b n vl L s) (hg : Grow w w1) :
    ∃ a c, vl = .slice (some a) n c ∧ (s.i : Int) < (n : Int) ∧ w1.cell? (a.add (s.i * 3)) = some (.int .i64 (curT L s).kind) ∧ w1.cell? ⟨(a.add (s.i * 3)).block, (a.add (s.i * 3)).off + 1, none⟩ = some (.string (tx (curT L s).text)) ∧ w1.cell? ⟨(a.add (s.i * 3)).block, (a.add (s.i * 3)).off + 2, none⟩ = some (.int .i64 ((curT L s).pos : Int)) := by
  have ht := h.t
  obtain ⟨ao, c, rfl⟩ := ht.shape
  have hn := ht.1
  have hlt := h.lt
  obtain ⟨a, o, rfl, ho, c0, c1, c2⟩ := ((ht.later h.b).later hg).at (k := s.i) (by omega)
  obtain rfl : o = curT L s := by
    unfold curT
    rw [List.getD_eq_getElem?_getD, ho]
    rfl
  exact ⟨a, c, rfl, by omega, c0, c1, c2⟩

/-- The block of a token that is not laid yet. -/
abbrev tok0 : Obj := .cells #[.int .i64 0, .string ⟨#[]⟩, .int .i64 0] 80
/-- What a piece of the reader leaves: a value, the state, new memory. -/
def Rets (w0 w : World) (b n : Nat) (vl : Value) (L : List Tk) (s' : PS) (x : Ending) (e : Ending) (w' : World) : Prop := e = x ∧ Rdr w0 w' b n vl L s' ∧ Chg [b] w w'

theorem Rdr.set1 {w0 w : World} {b n : Nat} {vl : Value} {L : List Tk} {s : PS} (h : Rdr w0 w b n vl L s) (i : Nat) (hi : i < L.length) : Rdr w0 (w.setCell ⟨b, 1, none⟩ (.int .i64 (i : Int))) b n vl L { s with i := i } :=
  h.chg (F := [b]) ((Chg.refl [b] w).set (.inl (by simp)) 1 _) (fun x hx => by simp only [List.mem_singleton] at hx; omega) (h.r.set1 i) hi h.deep
theorem Rdr.few {w0 w : World} {b n : Nat} {vl : Value} {L : List Tk} {s : PS} (h : Rdr w0 w b n vl L s) : s.i < 10000 := by
  have := h.lt
  have := h.ok.few
  omega
theorem Rets.out1 {w0 w w' : World} {b n : Nat} {vl : Value} {L : List Tk} {s' : PS} {x e : Ending} (h : Rets w0 w b n vl L s' x e w') : e = x ∧ Hid (Rdr w0 w' b n vl L s' ∧ Chg [b] w w') := ⟨h.1, Lib.hid h.2⟩

end Go.Proofs.YtlgfijjkbomejaaDoor

/- The reference's reader, more: fail, here, want, open, name, qname. Numbers and types by name. -/
namespace Go.Proofs.YtlgfijjkbomejaaDoor
open Go.RowKit Go.Lib
set_option maxRecDepth 100000

theorem Rdr.set2 {w0 w : World} {b n : Nat} {vl : Value} {L : List Tk} {s : PS} (h : Rdr w0 w b n vl L s) (d : Nat) (hd : d ≤ 1000) : Rdr w0 (w.setCell ⟨b, 2, none⟩ (.int .i64 (d : Int))) b n vl L { s with deep := d } :=
  h.chg (F := [b]) ((Chg.refl [b] w).set (.inl (by simp)) 2 _) (fun x hx => by simp only [List.mem_singleton] at hx; omega) (h.r.set2 d) h.lt hd
theorem Rdr.set3 {w0 w : World} {b n : Nat} {vl : Value} {L : List Tk} {s : PS} (h : Rdr w0 w b n vl L s) (e : Int) : Rdr w0 (w.setCell ⟨b, 3, none⟩ (.int .i64 e)) b n vl L { s with e := e } :=
  h.chg (F := [b]) ((Chg.refl [b] w).set (.inl (by simp)) 3 _) (fun x hx => by simp only [List.mem_singleton] at hx; omega) (h.r.set3 e) h.lt h.deep
theorem Rdr.set4 {w0 w : World} {b n : Nat} {vl : Value} {L : List Tk} {s : PS} (h : Rdr w0 w b n vl L s) (p : Nat) : Rdr w0 (w.setCell ⟨b, 4, none⟩ (.int .i64 (p : Int))) b n vl L { s with pos := p } :=
  h.chg (F := [b]) ((Chg.refl [b] w).set (.inl (by simp)) 4 _) (fun x hx => by simp only [List.mem_singleton] at hx; omega) (h.r.set4 p) h.lt h.deep
theorem Rdr.drewN {w0 w : World} {b n : Nat} {vl : Value} {L : List Tk} {s : PS} (h : Rdr w0 w b n vl L s) (k : Nat) : Rdr w0 (w.drewN k) b n vl L s :=
  h.chg (F := []) ((Chg.refl [] w).drewN k) (fun x hx => by cases hx) (h.r.chg ((Chg.refl [] w).drewN k) (by simp)) h.lt h.deep

theorem Rets.comp {w0 w w1 w2 : World} {b n : Nat} {vl : Value} {L : List Tk} {s2 : PS} {x e : Ending} (hc : Chg [b] w w1) (h : Rets w0 w1 b n vl L s2 x e w2) : Rets w0 w b n vl L s2 x e w2 := ⟨h.1, h.2.1, hc.trans h.2.2⟩

end Go.Proofs.YtlgfijjkbomejaaDoor

namespace Go.Proofs.YtlgfijjkbomejaaDoor
open Go.RowKit Go.Lib
set_option maxRecDepth 100000

def nv (o : Nd) : List Value := [.int .i64 o.kind, .int .i64 o.num, .string (tx o.mod), .string (tx o.name), .int .i64 o.a, .int .i64 o.b, .int .i64 (o.pos : Int)]
def nvs (L : List Nd) : List Value := L.flatMap nv
theorem nvs_length (L : List Nd) : (nvs L).length = L.length * 7 := by
  induction L with
  | nil => rfl
  | cons o L ih => simp only [nvs, List.flatMap_cons, List.length_append, List.length_cons] at *; rw [ih]; simp [nv]; omega
theorem nvs_snoc (L : List Nd) (o : Nd) : nvs (L ++ [o]) = nvs L ++ nv o := by simp [nvs]
theorem nvs_at {L : List Nd} {k : Nat} {o : Nd} (h : L[k]? = some o) (j : Nat) (hj : j < 7) : (nvs L)[k * 7 + j]? = (nv o)[j]? := by
  induction L generalizing k with
  | nil => cases h
  | cons p L ih =>
    have e : nvs (p :: L) = nv p ++ nvs L := by simp [nvs]
    cases k with
    | zero =>
      simp only [List.getElem?_cons_zero, Option.some.injEq] at h
      subst h
      rw [e, Nat.zero_mul, Nat.zero_add, List.getElem?_append_left (by simp [nv]; omega)]
    | succ k =>
      rw [List.getElem?_cons_succ] at h
      rw [e, List.getElem?_append_right (by simp [nv]; omega), ← ih h]
      congr 1
      simp [nv]; omega
theorem nv_one (o : Nd) : ∀ u ∈ nv o, u.oneCell' = true := by
  intro u hu
  simp only [nv, List.mem_cons, List.not_mem_nil, or_false] at hu
  rcases hu with rfl | rfl | rfl | rfl | rfl | rfl | rfl <;> rfl
/-- A list of nodes can be read. -/
def Ndr (w : World) (v : Value) (n : Nat) (L : List Nd) : Prop := n = L.length ∧ n ≤ 100000 ∧ Cells w v 7 n (nvs L)
theorem Ndr.shape {w : World} {v : Value} {n : Nat} {L : List Nd} (h : Ndr w v n L) : ∃ ao c, v = .slice ao n c := by
  obtain ⟨_, _, ao, c, rfl, _⟩ := h
  exact ⟨ao, c, rfl⟩
theorem Ndr.later {w w' : World} {v : Value} {n : Nat} {L : List Nd} (h : Ndr w v n L) (hg : Grow w w') : Ndr w' v n L := ⟨h.1, h.2.1, h.2.2.later hg⟩
theorem Ndr.nil (w : World) : Ndr w (.slice none 0 0) 0 [] := ⟨rfl, Nat.zero_le _, none, 0, rfl, rfl, Nat.le_refl _, fun _ => ⟨rfl, rfl⟩, fun a h => by cases h⟩
/-- The block of a row, if it has one. -/
def rowF (v : Value) : List Nat := v.ownBlock.toList
theorem rowF_mem {v : Value} {k : Nat} : k ∈ rowF v ↔ v.ownBlock = some k := by
  unfold rowF
  cases v.ownBlock <;> simp [eq_comm]
/-- A row that came out of another: in its block, or in a new one. -/
def FromRow (w : World) (v v' : Value) : Prop := v'.ownBlock = v.ownBlock ∨ ∀ k, v'.ownBlock = some k → w.heap.size ≤ k
theorem FromRow.refl (w : World) (v : Value) : FromRow w v v := .inl rfl
theorem FromRow.mem {w : World} {v v' : Value} (h : FromRow w v v') {F : List Nat} {x : Nat} (hx : x ∈ rowF v') (hF : ∀ y ∈ rowF v, y ∈ F) : x ∈ F ∨ w.heap.size ≤ x := by
  rw [rowF_mem] at hx
  rcases h with h | h
  · exact .inl (hF x (rowF_mem.2 (by rw [← h]; exact hx)))
  · exact .inr (h x hx)
theorem FromRow.trans {w w1 : World} {v v1 v2 : Value} (h : FromRow w v v1) (h2 : FromRow w1 v1 v2) (hs : w.heap.size ≤ w1.heap.size) : FromRow w v v2 := by
  rcases h2 with e | e
  · rcases h with h | h
    · exact .inl (e.trans h)
    · exact .inr fun k hk => h k (by rw [← e]; exact hk)
  · exact .inr fun k hk => Nat.le_trans hs (e k hk)

end Go.Proofs.YtlgfijjkbomejaaDoor
