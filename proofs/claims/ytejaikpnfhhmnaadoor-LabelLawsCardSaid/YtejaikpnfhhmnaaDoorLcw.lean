/- The code's closure. Numbers and types by name. -/
import Derived.Test.YtejaikpnfhhmnaaDoorIns
import Derived.Test.YtejaikpnfhhmnaaDoorLrb
import Derived.Test.YtejaikpnfhhmnaaDoorLtc
/- Lattices in memory; how they are told. Numbers and types by name. -/
namespace Go.Proofs.YtejaikpnfhhmnaaDoor
open Go.RowKit Go.Lib
set_option maxRecDepth 100000

def lat0 : Value := .agg #[.slice none 0 0, .slice none 0 0, .slice none 0 0, .slice none 0 0, .int .i64 0, .int .i64 0]
/-- A lattice that is read, in blocks from lo on: its names, its order; all else follows. -/
def LatV (lo : Nat) (w : World) (L : List (List UInt8)) (f : Nat → Nat → Bool) (v : Value) : Prop :=
  ∃ aN cN aL cL aJ cJ aM cM n, n = L.length ∧ v = .agg #[.slice aN n cN, .slice aL n cL, .slice aJ n cJ, .slice aM n cM, .int .i64 (lowI n f : Int), .int .i64 (lowI n (flipB f) : Int)] ∧
    (StrV w (.slice aN n cN) n L ∧ BlkP (fun k => lo ≤ k) (.slice aN n cN)) ∧ TabL lo w (.slice aL n cL) n n (bB f) ∧ TabL lo w (.slice aJ n cJ) n n (bI (joinI n f)) ∧ TabL lo w (.slice aM n cM) n n (bI (joinI n (flipB f)))
theorem LatV.chg {lo : Nat} {w w' : World} {L : List (List UInt8)} {f : Nat → Nat → Bool} {v : Value} {F : List Nat} (h : LatV lo w L f v) (hc : Chg F w w') (hF : ∀ k, k ∈ F → k < lo) : LatV lo w' L f v := by
  obtain ⟨aN, cN, aL, cL, aJ, cJ, aM, cM, n, hn, e, h1, h2, h3, h4⟩ := h
  exact ⟨aN, cN, aL, cL, aJ, cJ, aM, cM, n, hn, e, ⟨⟨h1.1.1, h1.1.2.1, h1.1.2.2.chg h1.2 hc fun k hk hm => by have := hF k hm; omega⟩, h1.2⟩, h2.chg hc hF, h3.chg hc hF, h4.chg hc hF⟩
theorem LatV.later {lo : Nat} {w w' : World} {L : List (List UInt8)} {f : Nat → Nat → Bool} {v : Value} (h : LatV lo w L f v) (hg : Grow w w') : LatV lo w' L f v := h.chg (F := []) (Chg.of_below hg) (by simp)
theorem LatV.mono {lo lo' : Nat} {w : World} {L : List (List UInt8)} {f : Nat → Nat → Bool} {v : Value} (h : LatV lo w L f v) (hl : lo' ≤ lo) : LatV lo' w L f v := by
  obtain ⟨aN, cN, aL, cL, aJ, cJ, aM, cM, n, hn, e, h1, h2, h3, h4⟩ := h
  exact ⟨aN, cN, aL, cL, aJ, cJ, aM, cM, n, hn, e, ⟨h1.1, h1.2.mono fun k hk => Nat.le_trans hl hk⟩, h2.mono hl, h3.mono hl, h4.mono hl⟩
/-- What makes a lattice of an order that it closes. -/
def LattTold (lo base : Nat) (w : World) (L : List (List UInt8)) (b : Nat → Nat → Bool) (e : Ending) (w' : World) : Prop :=
  Below base w w' ∧ ∃ f, Clos L.length b f ∧ ((lattP L.length f = false ∧ e = .returned (.tuple #[lat0, .bool false])) ∨ (lattP L.length f = true ∧ ∃ v, e = .returned (.tuple #[v, .bool true]) ∧ LatV lo w' L f v))
theorem Mat.tabL {w : World} {base O C n : Nat} {R cp : Nat → Nat} {f : Nat → Nat → Bool} (h : Mat w base O C n R cp f) (hO : base ≤ O) : TabL base w (.slice (some ⟨O, 0, none⟩) n C) n n (bB f) := by
  refine ⟨(List.range n).map fun i => .slice (some ⟨R i, 0, none⟩) n (cp i), ⟨some ⟨O, 0, none⟩, C, rfl, by simp, h.cap, (fun e => by cases e), fun a ha j u hj => ?_⟩, (fun a m c e => by cases e; exact hO), fun i vi hi => ?_⟩
  · cases ha
    rw [Addr.add_lit, Nat.zero_add]
    have hl : j < n := by have := (List.getElem?_eq_some_iff.1 hj).1; simpa using this
    rw [List.getElem?_map, List.getElem?_range hl] at hj
    simp only [Option.map_some, Option.some.injEq] at hj
    subst hj
    exact h.outer j hl
  · have hl : i < n := by have := (List.getElem?_eq_some_iff.1 hi).1; simpa using this
    rw [List.getElem?_map, List.getElem?_range hl] at hi
    simp only [Option.map_some, Option.some.injEq] at hi
    subst hi
    exact ⟨Cells.own (h.row i hl) (by decide), own_low (h.row i hl)⟩

theorem load_lat {w : World} {M : Nat} {cs : List Value} {t : TypeId} (h : w.heap[M]? = some (.cells cs.toArray t)) (hl : cs.length = 6) : (loadVar 29 ⟨M, 0, none⟩).run Tryd.prog w = .ok (.agg cs.toArray) w := by
  refine run_load_agg w ⟨M, 0, none⟩ 29 cs _ (fun j v hj => ?_) Tryd.underlying29 rfl (by rw [hl]; decide)
  rw [Addr.add_lit, Nat.zero_add]
  exact cellsN h j v (by simpa using hj)
theorem res_lat2 {fn : Func} {p q : Nat} (h : fn.results = #[.cell p 29, .tmp q]) (tmps : Array Value) (w : World) (M : Nat) (cs : List Value) (hl : cs.length = 6) {t : TypeId} (hM : w.heap[M]? = some (.cells cs.toArray t)) (x : Value)
    (h2 : tmps.getD p undef = .pointer (some ⟨M, 0, none⟩)) (h3 : tmps.getD q undef = x) : (results fn tmps).run Tryd.prog w = .ok (.tuple #[.agg cs.toArray, x]) w := by
  have hv := load_lat hM hl
  have h2' : tmps[p]?.getD undef = .pointer (some ⟨M, 0, none⟩) := by simpa using h2
  have h3' : tmps[q]?.getD undef = x := by simpa using h3
  simp [results, h, h2', h3', asAddr, hv]
theorem res_lat3 {fn : Func} {p q r : Nat} (h : fn.results = #[.cell p 29, .tmp q, .tmp r]) (tmps : Array Value) (w : World) (M : Nat) (cs : List Value) (hl : cs.length = 6) {t : TypeId} (hM : w.heap[M]? = some (.cells cs.toArray t)) (x y : Value)
    (h2 : tmps.getD p undef = .pointer (some ⟨M, 0, none⟩)) (h3 : tmps.getD q undef = x) (h4 : tmps.getD r undef = y) : (results fn tmps).run Tryd.prog w = .ok (.tuple #[.agg cs.toArray, x, y]) w := by
  have hv := load_lat hM hl
  have h2' : tmps[p]?.getD undef = .pointer (some ⟨M, 0, none⟩) := by simpa using h2
  have h3' : tmps[q]?.getD undef = x := by simpa using h3
  have h4' : tmps[r]?.getD undef = y := by simpa using h4
  simp [results, h, h2', h3', h4', asAddr, hv]
/-- Six cells are written. -/
theorem lat_set6 {w : World} {M : Nat} {a0 a1 a2 a3 a4 a5 : Value} {t : TypeId} (h : w.heap[M]? = some (.cells #[a0, a1, a2, a3, a4, a5] t)) (b0 b1 b2 b3 b4 b5 : Value) :
    ((((((w.setCell ⟨M, 0, none⟩ b0).setCell ⟨M, 1, none⟩ b1).setCell ⟨M, 2, none⟩ b2).setCell ⟨M, 3, none⟩ b3).setCell ⟨M, 4, none⟩ b4).setCell ⟨M, 5, none⟩ b5).heap[M]? = some (.cells #[b0, b1, b2, b3, b4, b5] t) ∧ Chg [M] w ((((((w.setCell ⟨M, 0, none⟩ b0).setCell ⟨M, 1, none⟩ b1).setCell ⟨M, 2, none⟩ b2).setCell ⟨M, 3, none⟩ b3).setCell ⟨M, 4, none⟩ b4).setCell ⟨M, 5, none⟩ b5) :=
  ⟨heap_setCell_same _ _ _ _ _ _ (heap_setCell_same _ _ _ _ _ _ (heap_setCell_same _ _ _ _ _ _ (heap_setCell_same _ _ _ _ _ _ (heap_setCell_same _ _ _ _ _ _ (heap_setCell_same _ _ _ _ _ _ h))))), (((((((Chg.refl [M] w).set (.inl (by simp)) 0 _).set (.inl (by simp)) 1 _).set (.inl (by simp)) 2 _).set (.inl (by simp)) 3 _).set (.inl (by simp)) 4 _).set (.inl (by simp)) 5 _)⟩
/-- A lattice's cells, and that they may be written. -/
structure LatB (w : World) (M : Nat) (c0 c1 c2 c3 c4 c5 : Value) : Prop where
  h : w.heap[M]? = some (.cells #[c0, c1, c2, c3, c4, c5] 29 (0, 0))
theorem LatB.cells {w : World} {M : Nat} {c0 c1 c2 c3 c4 c5 : Value} (H : LatB w M c0 c1 c2 c3 c4 c5) : (w.cell? ⟨M, 0, none⟩ = some c0 ∧ w.cell? ⟨M, 1, none⟩ = some c1 ∧ w.cell? ⟨M, 2, none⟩ = some c2) ∧ w.cell? ⟨M, 3, none⟩ = some c3 ∧ w.cell? ⟨M, 4, none⟩ = some c4 ∧ w.cell? ⟨M, 5, none⟩ = some c5 :=
  ⟨⟨cellsN H.h 0 _ rfl, cellsN H.h 1 _ rfl, cellsN H.h 2 _ rfl⟩, cellsN H.h 3 _ rfl, cellsN H.h 4 _ rfl, cellsN H.h 5 _ rfl⟩
theorem LatB.free {w : World} {M : Nat} {c0 c1 c2 c3 c4 c5 : Value} (H : LatB w M c0 c1 c2 c3 c4 c5) : (w.frozen? ⟨M, 0, none⟩ = false ∧ w.frozen? ⟨M, 1, none⟩ = false ∧ w.frozen? ⟨M, 2, none⟩ = false) ∧ w.frozen? ⟨M, 3, none⟩ = false ∧ w.frozen? ⟨M, 4, none⟩ = false ∧ w.frozen? ⟨M, 5, none⟩ = false :=
  ⟨⟨frozen_of_row _ _ _ _ _ H.h, frozen_of_row _ _ _ _ _ H.h, frozen_of_row _ _ _ _ _ H.h⟩, frozen_of_row _ _ _ _ _ H.h, frozen_of_row _ _ _ _ _ H.h, frozen_of_row _ _ _ _ _ H.h⟩
theorem LatB.chg {w w' : World} {M : Nat} {c0 c1 c2 c3 c4 c5 : Value} {F : List Nat} (H : LatB w M c0 c1 c2 c3 c4 c5) (hc : Chg F w w') (hF : M ∉ F) : LatB w' M c0 c1 c2 c3 c4 c5 := ⟨(hc.block M (Array.getElem?_eq_some_iff.1 H.h).1 hF).trans H.h⟩
theorem LatB.later {w w' : World} {M : Nat} {c0 c1 c2 c3 c4 c5 : Value} (H : LatB w M c0 c1 c2 c3 c4 c5) (hg : Grow w w') : LatB w' M c0 c1 c2 c3 c4 c5 := H.chg (F := []) (Chg.of_below hg) (by simp)
theorem LatB.new (w : World) (c0 c1 c2 c3 c4 c5 : Value) : LatB (w.alloc (.cells #[c0, c1, c2, c3, c4, c5] 29)) w.heap.size c0 c1 c2 c3 c4 c5 := ⟨heap_alloc_new _ _⟩
theorem LatB.lt {w : World} {M : Nat} {c0 c1 c2 c3 c4 c5 : Value} (H : LatB w M c0 c1 c2 c3 c4 c5) : M < w.heap.size := (Array.getElem?_eq_some_iff.1 H.h).1

end Go.Proofs.YtejaikpnfhhmnaaDoor

namespace Go.Proofs.YtejaikpnfhhmnaaDoor
open Go.RowKit Go.Lib
set_option maxRecDepth 100000

/-- It has b, and is within all that is reflexive, goes on, and has b. -/
structure CloI (n : Nat) (b g : Nat → Nat → Bool) : Prop where
  base : ∀ x y, x < n → y < n → b x y = true → g x y = true
  least : ∀ T : Nat → Nat → Prop, (∀ x, x < n → T x x) → (∀ x y z, x < n → y < n → z < n → T x y → T y z → T x z) → (∀ x y, x < n → y < n → b x y = true → T x y) → ∀ x y, x < n → y < n → g x y = true → T x y
theorem CloI.refl (n : Nat) (b : Nat → Nat → Bool) : CloI n b b := ⟨fun _ _ _ _ h => h, fun _ _ _ h x y hx hy hb => h x y hx hy hb⟩
theorem upd_mono {g : Nat → Nat → Bool} {a c x y : Nat} (h : g x y = true) : updB g a c true x y = true := by
  unfold updB
  split
  · rfl
  · exact h
theorem upd_at (g : Nat → Nat → Bool) (a c : Nat) (z : Bool) : updB g a c z a c = z := by simp [updB]
theorem CloI.diag {n : Nat} {b g : Nat → Nat → Bool} (h : CloI n b g) (a : Nat) : CloI n b (updB g a a true) := by
  refine ⟨fun x y hx hy hb => upd_mono (h.base x y hx hy hb), fun T t1 t2 t3 x y hx hy hg => ?_⟩
  unfold updB at hg
  split at hg
  · rename_i e
    obtain ⟨rfl, rfl⟩ := e
    exact t1 _ hx
  · exact h.least T t1 t2 t3 x y hx hy hg
theorem CloI.via {n : Nat} {b g : Nat → Nat → Bool} (h : CloI n b g) {a c v : Nat} (ha : a < n) (hc : c < n) (hv : v < n) (h1 : g a v = true) (h2 : g v c = true) : CloI n b (updB g a c true) := by
  refine ⟨fun x y hx hy hb => upd_mono (h.base x y hx hy hb), fun T t1 t2 t3 x y hx hy hg => ?_⟩
  unfold updB at hg
  split at hg
  · rename_i e
    obtain ⟨rfl, rfl⟩ := e
    exact t2 _ v _ hx hv hy (h.least T t1 t2 t3 _ v ha hv h1) (h.least T t1 t2 t3 v _ hv hc h2)
  · exact h.least T t1 t2 t3 x y hx hy hg
/-- By way of those below r alone. -/
def WayP (b : Nat → Nat → Bool) : Nat → Nat → Nat → Prop
  | 0, x, y => x = y ∨ b x y = true
  | r + 1, x, y => WayP b r x y ∨ (WayP b r x r ∧ WayP b r r y)
theorem WayP.here (b : Nat → Nat → Bool) : ∀ r x, WayP b r x x
  | 0, _ => .inl rfl
  | r + 1, x => .inl (WayP.here b r x)
theorem WayP.base {b : Nat → Nat → Bool} {x y : Nat} (h : b x y = true) : ∀ r, WayP b r x y
  | 0 => .inr h
  | r + 1 => .inl (WayP.base h r)
theorem WayP.via {b : Nat → Nat → Bool} : ∀ (r k : Nat) {x y : Nat}, k < r → WayP b r x k → WayP b r k y → WayP b r x y
  | 0, k, _, _, hk, _, _ => by omega
  | r + 1, k, x, y, hk, h1, h2 => by
    rcases Nat.lt_or_ge k r with hlt | hge
    · rcases h1 with h1 | ⟨h1, h1'⟩
      · rcases h2 with h2 | ⟨h2, h2'⟩
        · exact .inl (WayP.via r k hlt h1 h2)
        · exact .inr ⟨WayP.via r k hlt h1 h2, h2'⟩
      · rcases h2 with h2 | ⟨h2, h2'⟩
        · exact .inr ⟨h1, WayP.via r k hlt h1' h2⟩
        · exact .inr ⟨h1, h2'⟩
    · obtain rfl : k = r := by omega
      have e1 : WayP b k x k := by rcases h1 with h1 | ⟨h1, _⟩ <;> exact h1
      have e2 : WayP b k k y := by rcases h2 with h2 | ⟨_, h2⟩ <;> exact h2
      exact .inr ⟨e1, e2⟩
theorem CloI.clos {n : Nat} {b g : Nat → Nat → Bool} (h : CloI n b g) (hr : ∀ x, x < n → g x x = true) (hw : ∀ x y, x < n → y < n → WayP b n x y → g x y = true) : Clos n b g := by
  refine ⟨hr, fun x y z hx hy hz h1 h2 => ?_, h.base, h.least⟩
  have t2 : ∀ x y z, x < n → y < n → z < n → WayP b n x y → WayP b n y z → WayP b n x z := fun x y z _ hy _ a c => WayP.via n y hy a c
  have e1 := h.least (WayP b n) (fun x _ => WayP.here b n x) t2 (fun x y _ _ hb => WayP.base hb n) x y hx hy h1
  have e2 := h.least (WayP b n) (fun x _ => WayP.here b n x) t2 (fun x y _ _ hb => WayP.base hb n) y z hy hz h2
  exact hw x z hx hz (t2 x y z hx hy hz e1 e2)

/-- While a round is under way: all that it had, and what it made. -/
structure RndI (n : Nat) (b g : Nat → Nat → Bool) (r a c : Nat) : Prop where
  clo : CloI n b g
  refl : ∀ x, x < n → g x x = true
  old : ∀ x y, x < n → y < n → WayP b r x y → g x y = true
  rows : ∀ x y, x < a → y < n → WayP b (r + 1) x y → g x y = true
  cells : ∀ y, y < c → WayP b (r + 1) a y → g a y = true
theorem RndI.upd {n : Nat} {b g : Nat → Nat → Bool} {r a c v : Nat} (h : RndI n b g r a c) (ha : a < n) (hc : c < n) (hv : v < n) (h1 : g a v = true) (h2 : g v c = true) : RndI n b (updB g a c true) r a (c + 1) := by
  refine ⟨h.clo.via ha hc hv h1 h2, fun x hx => upd_mono (h.refl x hx), fun x y hx hy hw => upd_mono (h.old x y hx hy hw), fun x y hx hy hw => upd_mono (h.rows x y hx hy hw), fun y hy hw => ?_⟩
  rcases Nat.lt_or_ge y c with h3 | h3
  · exact upd_mono (h.cells y h3 hw)
  · obtain rfl : y = c := by omega
    exact upd_at g a y true
theorem RndI.keep {n : Nat} {b g : Nat → Nat → Bool} {r a c : Nat} (h : RndI n b g r a c) (ha : a < n) (hc : c < n) (hr : r < n) (hn : ∀ v, v < n → g a v = false ∨ g v c = false) : RndI n b g r a (c + 1) := by
  refine ⟨h.clo, h.refl, h.old, h.rows, fun y hy hw => ?_⟩
  rcases Nat.lt_or_ge y c with h3 | h3
  · exact h.cells y h3 hw
  · obtain rfl : y = c := by omega
    rcases hw with hw | ⟨h1, h2⟩
    · exact h.old a y ha hc hw
    · rcases hn r hr with h4 | h4
      · rw [h.old a r ha hr h1] at h4; cases h4
      · rw [h.old r y hr hc h2] at h4; cases h4
theorem RndI.row {n : Nat} {b g : Nat → Nat → Bool} {r a : Nat} (h : RndI n b g r a n) : RndI n b g r (a + 1) 0 := by
  refine ⟨h.clo, h.refl, h.old, fun x y hx hy hw => ?_, fun y hy => by omega⟩
  rcases Nat.lt_or_ge x a with h3 | h3
  · exact h.rows x y h3 hy hw
  · obtain rfl : x = a := by omega
    exact h.cells y hy hw
theorem RndI.round {n : Nat} {b g : Nat → Nat → Bool} {r : Nat} (h : RndI n b g r n 0) : RndI n b g (r + 1) 0 0 :=
  ⟨h.clo, h.refl, h.rows, fun x y hx => by omega, fun y hy => by omega⟩

/-- What closure leaves. -/
def CloTold (w : World) (base O C n : Nat) (R cp : Nat → Nat) (b : Nat → Nat → Bool) (e : Ending) (w' : World) : Prop :=
  e = .returned (.tuple #[]) ∧ Chg (rowsF n R) w w' ∧ ∃ f, Clos n b f ∧ Mat w' base O C n R cp f

set_option maxHeartbeats 8000000 in
theorem code_closure (base O C n : Nat) (R cp : Nat → Nat) (b : Nat → Nat → Bool) (w : World) (h : Mat w base O C n R cp b) (hn : n ≤ 1000) :
    Calls Tryd.prog 44 #[.slice (some ⟨O, 0, none⟩) n C] w (CloTold w base O C n R cp b) := by
  have H := Lib.hid h
  clear h
  go_enter Tryd.func44, Tryd.ntmps44
  go_wp2_with fail
  go_loopw [8] (fun i wr => ∃ k : Nat, k ≤ n ∧ i = .int .i64 k ∧ Hid (Chg (rowsF n R) w wr ∧ ∃ g, Mat wr base O C n R cp g ∧ CloI n b g ∧ ∀ x, x < k → g x x = true))
    (fun i _ => n - (RowKit.intOf i).toNat)
  case atStart => exact ⟨0, Nat.zero_le _, rfl, Lib.hid ⟨Chg.refl _ _, b, H.out, CloI.refl n b, fun x hx => by omega⟩⟩
  case round =>
    obtain ⟨k, hk, rfl, hs⟩ := hrel
    by_cases h1 : k < n
    · have h3 : (k : Int) < (n : Int) := by omega
      obtain ⟨hC, g, hM, hI, hD⟩ := hs.out
      have c1 := hM.outer k h1
      obtain ⟨m1, f1⟩ := hM.at h1 h1
      have HX := Lib.hid (And.intro hC (And.intro hM (And.intro hI hD)))
      clear hC hM hI hD hs
      go_wp2_with fail
      refine ⟨⟨k + 1, by omega, by go_num, Lib.hid ⟨HX.out.1.set (.inl (rowsF_mem h1)) _ _, _, HX.out.2.1.set h1 k true, HX.out.2.2.1.diag k, fun x hx => ?_⟩⟩, by simp [RowKit.intOf]; omega⟩
      by_cases hxk : x < k
      · exact upd_mono (HX.out.2.2.2 x hxk)
      · obtain rfl : x = k := by omega
        exact upd_at g x x true
    · have h3 : ¬ (k : Int) < (n : Int) := by omega
      obtain rfl : k = n := by omega
      have HI : Hid (Chg (rowsF k R) w wr ∧ ∃ g, Mat wr base O C k R cp g ∧ RndI k b g 0 0 0) := Lib.hid (by
        obtain ⟨hC, g, hM, hI, hD⟩ := hs.out
        refine ⟨hC, g, hM, hI, hD, fun x y hx hy hw => ?_, fun x y hx => by omega, fun y hy => by omega⟩
        rcases hw with rfl | hw
        · exact hD x hx
        · exact hI.base x y hx hy hw)
      clear hs
      go_wp2_with fail
      go_loopw [20] (fun i wr => ∃ r : Nat, r ≤ k ∧ i = .int .i64 r ∧ Hid (Chg (rowsF k R) w wr ∧ ∃ g, Mat wr base O C k R cp g ∧ RndI k b g r 0 0))
        (fun i _ => k - (RowKit.intOf i).toNat)
      case atStart => exact ⟨0, Nat.zero_le _, rfl, HI⟩
      case round =>
        clear HI
        obtain ⟨r, hr, rfl, hs⟩ := hrel
        by_cases h4 : r < k
        · have h5 : (r : Int) < (k : Int) := by omega
          go_wp2_with fail
          go_loopw [24] (fun i wr => ∃ a : Nat, a ≤ k ∧ i = .int .i64 a ∧ Hid (Chg (rowsF k R) w wr ∧ ∃ g, Mat wr base O C k R cp g ∧ RndI k b g r a 0))
            (fun i _ => k - (RowKit.intOf i).toNat)
          case atStart => exact ⟨0, Nat.zero_le _, rfl, hs⟩
          case round =>
            clear hs
            obtain ⟨a, ha, rfl, hs⟩ := hrel
            by_cases h6 : a < k
            · have h7 : (a : Int) < (k : Int) := by omega
              go_wp2_with fail
              try go_step3
              try go_wp2_with fail
              try go_step3
              try go_wp2_with fail
              go_loopw [29] (fun i wr => ∃ c : Nat, c ≤ k ∧ i = .int .i64 c ∧ Hid (Chg (rowsF k R) w wr ∧ ∃ g, Mat wr base O C k R cp g ∧ RndI k b g r a c))
                (fun i _ => k - (RowKit.intOf i).toNat)
              case atStart => exact ⟨0, Nat.zero_le _, rfl, hs⟩
              case round =>
                clear hs
                obtain ⟨c, hc, rfl, hs⟩ := hrel
                by_cases h8 : c < k
                · have h9 : (c : Int) < (k : Int) := by omega
                  obtain ⟨wq, hwq⟩ : ∃ wq, wq = wr := ⟨_, rfl⟩
                  rw [← hwq] at hs ⊢
                  clear hwq
                  obtain ⟨hC, g, hM, hI⟩ := hs.out
                  have HX := Lib.hid (And.intro hC (And.intro hM hI))
                  clear hC hM hI hs
                  go_wp2_with fail
                  go_loopw [34] (fun i wr => ∃ v q : Nat, v ≤ k ∧ i = .int .i64 v ∧ wr = wq.drewN q ∧ Hid (∀ x, x < v → g a x = false ∨ g x c = false))
                    (fun i _ => k - (RowKit.intOf i).toNat)
                  case atStart => exact ⟨0, 0, Nat.zero_le _, rfl, rfl, Lib.hid (fun x hx => by omega)⟩
                  case round =>
                    obtain ⟨v, q, hv, rfl, rfl, hz⟩ := hrel
                    by_cases h10 : v < k
                    · have h11 : (v : Int) < (k : Int) := by omega
                      have c1 := HX.out.2.1.outer a h6
                      have c2 := HX.out.2.1.outer v h10
                      obtain ⟨m1, _⟩ := HX.out.2.1.at h6 h10
                      obtain ⟨m2, _⟩ := HX.out.2.1.at h10 h8
                      obtain ⟨m3, f3⟩ := HX.out.2.1.at h6 h8
                      cases hf : g a v with
                      | false =>
                        rw [hf] at m1
                        have HF := Lib.hid hf
                        clear hf
                        go_wp2_with fail
                        refine ⟨⟨v + 1, q, by omega, by go_num, rfl, Lib.hid (fun x hx => ?_)⟩, by simp [RowKit.intOf]; omega⟩
                        by_cases hxv : x < v
                        · exact hz.out x hxv
                        · obtain rfl : x = v := by omega
                          exact .inl HF.out
                      | true =>
                        rw [hf] at m1
                        have HF := Lib.hid hf
                        clear hf
                        cases hf : g v c with
                        | false =>
                          rw [hf] at m2
                          have HK := Lib.hid hf
                          clear hf
                          go_wp2_with fail
                          refine ⟨⟨v + 1, q, by omega, by go_num, rfl, Lib.hid (fun x hx => ?_)⟩, by simp [RowKit.intOf]; omega⟩
                          by_cases hxv : x < v
                          · exact hz.out x hxv
                          · obtain rfl : x = v := by omega
                            exact .inr HK.out
                        | true =>
                          rw [hf] at m2
                          have HK := Lib.hid hf
                          clear hf
                          go_wp2_with fail
                          exact ⟨⟨c + 1, by omega, by go_num, Lib.hid ⟨(HX.out.1.drewN q).set (.inl (rowsF_mem h6)) _ _, _, (HX.out.2.1.drewN q).set h6 c true, HX.out.2.2.upd h6 h8 h10 HF.out HK.out⟩⟩, by simp [RowKit.intOf]; omega⟩
                    · have h11 : ¬ (v : Int) < (k : Int) := by omega
                      obtain rfl : v = k := by omega
                      go_wp2_with fail
                      exact ⟨⟨c + 1, by omega, by go_num, Lib.hid ⟨HX.out.1.drewN q, g, HX.out.2.1.drewN q, HX.out.2.2.keep h6 h8 h4 hz.out⟩⟩, by simp [RowKit.intOf]; omega⟩
                · have h9 : ¬ (c : Int) < (k : Int) := by omega
                  obtain rfl : c = k := by omega
                  go_wp2_with fail
                  refine ⟨⟨a + 1, by omega, by go_num, Lib.hid ?_⟩, by simp [RowKit.intOf]; omega⟩
                  obtain ⟨hC, g, hM, hI⟩ := hs.out
                  exact ⟨hC, g, hM, hI.row⟩
            · have h7 : ¬ (a : Int) < (k : Int) := by omega
              obtain rfl : a = k := by omega
              go_wp2_with fail
              refine ⟨⟨r + 1, by omega, by go_num, Lib.hid ?_⟩, by simp [RowKit.intOf]; omega⟩
              obtain ⟨hC, g, hM, hI⟩ := hs.out
              exact ⟨hC, g, hM, hI.round⟩
        · have h5 : ¬ (r : Int) < (k : Int) := by omega
          obtain rfl : r = k := by omega
          go_wp2_with fail
          go_end0
          obtain ⟨hC, g, hM, hI⟩ := hs.out
          exact ⟨rfl, hC, g, hI.clo.clos hI.refl hI.old, hM⟩

end Go.Proofs.YtejaikpnfhhmnaaDoor
