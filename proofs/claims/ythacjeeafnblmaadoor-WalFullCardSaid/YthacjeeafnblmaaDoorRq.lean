/- The reference's put. Numbers and types by name. -/
import Derived.Test.YthacjeeafnblmaaDoorCr
import Derived.Test.YthacjeeafnblmaaDoorMov
import Derived.Test.YthacjeeafnblmaaDoorOpr
import Derived.StillTailTactics
/- The reference's disk in memory; gate, told, at. Numbers and types by name. -/
namespace Go.Proofs.YthacjeeafnblmaaDoor
open Go.RowKit Go.Maps Go.Sort Go.WideMaps

structure RS where
  cap : Int
  fl : Value
  cr : Int
  dn : Bool
  kp : Value
  fv : Value
  n : Int
  dw : Bool

def RS.cells (s : RS) : Array Value := #[.int .i64 s.cap, s.fl, .int .i64 s.cr, .bool s.dn, s.kp, s.fv, .int .i64 s.n, .bool s.dw]
/-- What stands in the reference's row of files; G: the blocks of the files' bytes. -/
def TellR (w : World) (G : List Nat) (xs : List Value) (fs : List Ent) : Prop :=
  xs.length = fs.length * 3 ∧ ∀ j x, fs[j]? = some x → ∃ ao c, xs[j * 3]? = some (encStr x.1) ∧ xs[j * 3 + 1]? = some (.slice ao x.2.1.length c) ∧ xs[j * 3 + 2]? = some (.int .i64 (x.2.2 : Nat)) ∧
    Reads w (.slice ao x.2.1.length c) (bv x.2.1) ∧ (x.2.1 ≠ [] → ∀ a, ao = some a → a.block ∈ G)

theorem TellR.turn {w w' : World} {G F : List Nat} {xs : List Value} {fs : List Ent} (h : TellR w G xs fs) (t : Turn F w w') (hd : ∀ k ∈ G, k ∉ F) : TellR w' G xs fs := by
  refine ⟨h.1, fun j x hj => ?_⟩
  obtain ⟨ao, c, e1, e2, e3, h4, h5⟩ := h.2 j x hj
  refine ⟨ao, c, e1, e2, e3, h4.turn t fun hne a n c' e => ?_, h5⟩
  simp only [Value.slice.injEq] at e
  exact hd _ (h5 (by intro e2; rw [e2] at hne; exact hne rfl) a e.1)
theorem TellR.more {w : World} {G G' : List Nat} {xs : List Value} {fs : List Ent} (h : TellR w G xs fs) (hG : ∀ k ∈ G, k ∈ G') : TellR w G' xs fs :=
  ⟨h.1, fun j x hj => by obtain ⟨ao, c, e1, e2, e3, h4, h5⟩ := h.2 j x hj; exact ⟨ao, c, e1, e2, e3, h4, fun hne a e => hG _ (h5 hne a e)⟩⟩

structure RP (w : World) (s : RS) (M : MD) (G : List Nat) : Prop where
  cap : s.cap = M.cap
  cr : s.cr = M.cr
  dn : s.dn = M.dn
  n : s.n = M.n
  dw : s.dw = M.dw
  fail : Reads w s.fl (iv M.fail)
  keep : Reads w s.kp (iv M.keep)
  failG : M.fail ≠ [] → ∀ a n c, s.fl = .slice (some a) n c → a.block ∈ G
  keepG : M.keep ≠ [] → ∀ a n c, s.kp = .slice (some a) n c → a.block ∈ G
  n0 : 0 ≤ M.n

theorem RP.turn {w w' : World} {s : RS} {M : MD} {F G : List Nat} (h : RP w s M G) (t : Turn F w w') (hd : ∀ k ∈ G, k ∉ F) : RP w' s M G :=
  ⟨h.cap, h.cr, h.dn, h.n, h.dw, h.fail.turn t fun hne a n c e => hd _ (h.failG (by rintro e2; rw [e2] at hne; exact hne rfl) a n c e), h.keep.turn t fun hne a n c e => hd _ (h.keepG (by rintro e2; rw [e2] at hne; exact hne rfl) a n c e), h.failG, h.keepG, h.n0⟩

def theRef (r : Nat) : Value := .pointer (some ⟨r, 0, none⟩)

/-- What is told behind a crash. -/
def tell7 (M : MD) (x : Int) : Int := if M.dw = true then 7 else x

/-- The place of a file, or -1. -/
def placeE (k : List UInt8) (fs : List Ent) : Int := match fs.findIdx? (isName k) with
  | none => -1
  | some i => i

theorem row_cell {w : World} {base e : Nat} {ao : Option Addr} {n c : Nat} {xs : List Value} (h : w.ownsRow base e 3 (.slice ao n c) n xs) (hx : xs.length = n * 3) {j : Nat} {v : Value} (hj : xs[j]? = some v) :
    ∃ g, ao = some ⟨g, 0, none⟩ ∧ w.cell? ⟨g, j, none⟩ = some v ∧ w.frozen? ⟨g, j, none⟩ = false := by
  have hlt := (List.getElem?_eq_some_iff.1 hj).1
  rcases h.2 with ⟨hv, h0⟩ | ⟨g, cap, cur, hv, _, hg, hc, _, hs, ht⟩
  · subst h0; simp at hx; rw [hx] at hlt; simp at hlt
  · simp only [Value.slice.injEq] at hv
    obtain ⟨rfl, _, rfl⟩ := hv
    refine ⟨g, rfl, ?_, by simp [World.frozen?, hg]⟩
    simp only [World.cell?, hg]
    rw [← ht, List.getElem?_take] at hj
    split at hj
    · simpa using hj
    · cases hj

end Go.Proofs.YthacjeeafnblmaaDoor

/- The reference's gate. Numbers and types by name. -/
namespace Go.Proofs.YthacjeeafnblmaaDoor
open Go.RowKit Go.Maps Go.Sort Go.WideMaps

def MD.gate (M : MD) : Bool × Int × MD :=
  if M.dw = true then (false, 7, M)
  else if M.n + 1 = M.cr then (M.dn, 7, { M with n := M.n + 1, dw := true })
  else if M.fail.contains (M.n + 1) = true then (false, 6, { M with n := M.n + 1 })
  else (true, 0, { M with n := M.n + 1 })

theorem ints_at {w : World} {ao : Option Addr} {c n : Nat} {zs : List Int} (h : Reads w (.slice ao n c) (iv zs)) {k : Nat} (hk : k < zs.length) : ∃ a, ao = some a ∧ w.cell? (a.add k) = some (.int .i64 (zs.getD k 0)) := by
  obtain ⟨ao', c', e, h0, h1, h2⟩ := h
  simp only [Value.slice.injEq, iv_length] at e h0
  obtain ⟨rfl, rfl, rfl⟩ := e
  cases ao with
  | none =>
    have := (h1 rfl).1
    have : zs = [] := by simpa [iv] using this
    subst this; simp at hk
  | some a =>
    refine ⟨a, rfl, h2 a rfl k _ ?_⟩
    simp [iv, List.getElem?_map, List.getElem?_eq_getElem hk, List.getD_eq_getElem?_getD]

end Go.Proofs.YthacjeeafnblmaaDoor

/- The reference's row of files: a file out of it. Numbers and types by name. -/
namespace Go.Proofs.YthacjeeafnblmaaDoor
open Go.RowKit Go.Maps Go.Sort Go.WideMaps

theorem turn_below {w w' : World} (h : Below w.heap.size w w') : Turn [] w w' := ⟨h.os, h.tape, h.output, h.size, fun k hk _ => h.block k hk⟩

theorem TellR.nil (w : World) (G : List Nat) : TellR w G [] [] := ⟨rfl, fun j x h => by cases h⟩
theorem TellR.snoc {w : World} {G : List Nat} {xs : List Value} {fs : List Ent} (h : TellR w G xs fs) (x : Ent) (ao : Option Addr) (c : Nat) (hr : Reads w (.slice ao x.2.1.length c) (bv x.2.1)) (hG : x.2.1 ≠ [] → ∀ a, ao = some a → a.block ∈ G) :
    TellR w G (xs ++ [encStr x.1, .slice ao x.2.1.length c, .int .i64 (x.2.2 : Nat)]) (fs ++ [x]) := by
  obtain ⟨hl, hx⟩ := h
  refine ⟨by simp [hl, Nat.add_mul], fun j y hj => ?_⟩
  by_cases hjl : j < fs.length
  · rw [List.getElem?_append_left hjl] at hj
    obtain ⟨ao', c', e1, e2, e3, h4, h5⟩ := hx j y hj
    exact ⟨ao', c', by rw [List.getElem?_append_left (by omega)]; exact e1, by rw [List.getElem?_append_left (by omega)]; exact e2, by rw [List.getElem?_append_left (by omega)]; exact e3, h4, h5⟩
  · have hjl2 : j = fs.length := by
      have := (List.getElem?_eq_some_iff.1 hj).1
      simp at this; omega
    subst hjl2
    rw [List.getElem?_append_right (Nat.le_refl _), Nat.sub_self] at hj
    simp only [List.getElem?_cons_zero, Option.some.injEq] at hj
    subst hj
    refine ⟨ao, c, ?_, ?_, ?_, hr, hG⟩
    · rw [List.getElem?_append_right (by omega), show fs.length * 3 - xs.length = 0 by omega]; rfl
    · rw [List.getElem?_append_right (by omega), show fs.length * 3 + 1 - xs.length = 1 by omega]; rfl
    · rw [List.getElem?_append_right (by omega), show fs.length * 3 + 2 - xs.length = 2 by omega]; rfl

theorem erase_next {fs : List Ent} {i k : Nat} {x : Ent} (hx : fs[i]? = some x) (h : i ≠ k) : (fs.take (i + 1)).eraseIdx k = (fs.take i).eraseIdx k ++ [x] := by
  have hlt := (List.getElem?_eq_some_iff.1 hx).1
  have hl : (fs.take i).length = i := by rw [List.length_take]; omega
  rw [List.take_add_one, hx]
  simp only [Option.toList_some]
  by_cases hk : k < i
  · rw [List.eraseIdx_append_of_lt_length (by omega)]
  · rw [List.eraseIdx_of_length_le (by simp [hl]; omega), List.eraseIdx_of_length_le (by omega)]
theorem erase_skip {fs : List Ent} {k : Nat} {x : Ent} (hx : fs[k]? = some x) : (fs.take (k + 1)).eraseIdx k = (fs.take k).eraseIdx k := by
  have hlt := (List.getElem?_eq_some_iff.1 hx).1
  have hl : (fs.take k).length = k := by rw [List.length_take]; omega
  rw [List.take_add_one, hx]
  simp only [Option.toList_some]
  rw [List.eraseIdx_append_of_length_le (by omega), hl, Nat.sub_self, List.eraseIdx_of_length_le (l := fs.take k) (by omega)]
  simp

end Go.Proofs.YthacjeeafnblmaaDoor

/- The reference's row of files: a file into it. Numbers and types by name. -/
namespace Go.Proofs.YthacjeeafnblmaaDoor
open Go.RowKit Go.Maps Go.Sort Go.WideMaps

theorem own_set {w : World} {base e size g n c : Nat} {xs : List Value} (h : w.ownsRow base e size (.slice (some ⟨g, 0, none⟩) n c) n xs) (j : Nat) (v : Value) (hj : j < xs.length) :
    (w.setCell ⟨g, j, none⟩ v).ownsRow base e size (.slice (some ⟨g, 0, none⟩) n c) n (xs.set j v) := by
  obtain ⟨h1, h2 | ⟨g', cap, cur, e, hb, hg, hnc, hcm, hcs, ht⟩⟩ := h
  · exact absurd h2.1 (by simp)
  · simp only [Value.slice.injEq, Option.some.injEq, Addr.mk.injEq, and_true] at e
    obtain ⟨rfl, _, rfl⟩ := e
    refine ⟨by rw [List.length_set]; omega, .inr ⟨g, c, cur.setIfInBounds j v, rfl, hb, heap_set hg _ _, hnc, hcm, by simpa using hcs, ?_⟩⟩
    rw [← ht]
    simp [List.take_set]

theorem own_drew {w : World} {base e size : Nat} {v : Value} {n : Nat} {xs : List Value} (h : w.ownsRow base e size v n xs) (q : Nat) : (w.drewN q).ownsRow base e size v n xs := h

/-- The three cells of a file of the row are written. -/
theorem TellR.put {w w' : World} {G : List Nat} {zs : List Value} {L : List Ent} (h : TellR w G zs L) (t : Turn [] w w' ∨ ∃ g, Turn [g] w w' ∧ g ∉ G) (k : Nat) (y : Ent) (ao : Option Addr) (c : Nat) (hr : Reads w' (.slice ao y.2.1.length c) (bv y.2.1)) (hG : y.2.1 ≠ [] → ∀ a, ao = some a → a.block ∈ G) :
    TellR w' G (((zs.set (k * 3) (encStr y.1)).set (k * 3 + 1) (.slice ao y.2.1.length c)).set (k * 3 + 2) (.int .i64 (y.2.2 : Nat))) (L.set k y) := by
  have h' : TellR w' G zs L := by
    rcases t with t | ⟨g, t, hg⟩
    · exact h.turn t (by simp)
    · exact h.turn t (by intro k hk; simp; rintro rfl; exact hg hk)
  obtain ⟨hl, hx⟩ := h'
  refine ⟨by simp [hl], fun j x hj => ?_⟩
  by_cases hjk : j = k
  · subst hjk
    have hlt : j < L.length := by have := (List.getElem?_eq_some_iff.1 hj).1; simpa using this
    rw [List.getElem?_set_self hlt] at hj
    simp only [Option.some.injEq] at hj
    subst hj
    refine ⟨ao, c, ?_, ?_, ?_, hr, hG⟩
    · rw [List.getElem?_set_ne (by omega), List.getElem?_set_ne (by omega), List.getElem?_set_self (by omega)]
    · rw [List.getElem?_set_ne (by omega), List.getElem?_set_self (by simp; omega)]
    · rw [List.getElem?_set_self (by simp; omega)]
  · rw [List.getElem?_set_ne (by omega)] at hj
    obtain ⟨ao', c', e1, e2, e3, h4, h5⟩ := hx j x hj
    refine ⟨ao', c', ?_, ?_, ?_, h4, h5⟩
    · rw [List.getElem?_set_ne (by omega), List.getElem?_set_ne (by omega), List.getElem?_set_ne (by omega)]; exact e1
    · rw [List.getElem?_set_ne (by omega), List.getElem?_set_ne (by omega), List.getElem?_set_ne (by omega)]; exact e2
    · rw [List.getElem?_set_ne (by omega), List.getElem?_set_ne (by omega), List.getElem?_set_ne (by omega)]; exact e3

/-- While files move up: the place p is free. -/
def movedE (fs : List Ent) (p : Nat) : List Ent := (fs ++ [([], [], 0)]).take (p + 1) ++ fs.drop p

theorem movedE_length (fs : List Ent) {p : Nat} (h : p ≤ fs.length) : (movedE fs p).length = fs.length + 1 := by
  simp only [movedE, List.length_append, List.length_take, List.length_drop, List.length_cons, List.length_nil]; omega
theorem movedE_start (fs : List Ent) : movedE fs fs.length = fs ++ [([], [], 0)] := by
  unfold movedE
  rw [List.take_of_length_le (by simp), List.drop_length, List.append_nil]
theorem movedE_below {fs : List Ent} {p j : Nat} (hp : p ≤ fs.length) (hj : j < p) : (movedE fs p)[j]? = fs[j]? := by
  unfold movedE
  rw [List.getElem?_append_left (by simp; omega), List.getElem?_take, if_pos (by omega), List.getElem?_append_left (by omega)]
theorem movedE_step {fs : List Ent} {p : Nat} {y : Ent} (hp : p + 1 ≤ fs.length) (hy : fs[p]? = some y) : (movedE fs (p + 1)).set (p + 1) y = movedE fs p := by
  unfold movedE
  have hd : fs.drop p = y :: fs.drop (p + 1) := by
    rw [← List.getElem_cons_drop (h := by omega)]
    congr 1
    rw [List.getElem?_eq_getElem (by omega)] at hy
    exact Option.some.inj hy
  have hl : ((fs ++ [([], [], 0)]).take (p + 1)).length = p + 1 := by simp; omega
  rw [hd, List.take_add_one, List.append_assoc, List.set_append_right _ _ (by rw [hl]; omega), hl, Nat.sub_self]
  obtain ⟨z, hz⟩ : ∃ z, (fs ++ [([], [], 0)])[p + 1]? = some z := ⟨_, List.getElem?_eq_getElem (by simp; omega)⟩
  rw [hz]
  rfl
theorem insE_at {fs : List Ent} {x : Ent} {p : Nat} (hp : p ≤ fs.length) (h1 : ∀ j, j < p → ∀ y, fs[j]? = some y → y.1 < x.1) (h2 : ∀ y, fs[p]? = some y → ¬ y.1 < x.1) : insE x fs = fs.take p ++ x :: fs.drop p := by
  induction fs generalizing p with
  | nil => simp [insE]
  | cons y l ih =>
    unfold insE
    cases p with
    | zero => rw [if_neg (h2 y rfl)]; rfl
    | succ p =>
      rw [if_pos (h1 0 (by omega) y rfl), ih (by simpa using hp) (fun j hj z hz => h1 (j + 1) (by omega) z hz) (fun z hz => h2 z hz)]
      rfl
theorem movedE_end {fs : List Ent} {p : Nat} (x : Ent) (hp : p ≤ fs.length) : (movedE fs p).set p x = fs.take p ++ x :: fs.drop p := by
  unfold movedE
  have hl : ((fs ++ [([], [], 0)]).take p).length = p := by simp; omega
  obtain ⟨z, hz⟩ : ∃ z, (fs ++ [([], [], 0)])[p]? = some z := ⟨_, List.getElem?_eq_getElem (by simp; omega)⟩
  rw [List.take_add_one, hz, List.append_assoc, List.set_append_right _ _ (by rw [hl]; omega), hl, Nat.sub_self]
  rw [List.take_append_of_le_length hp]
  rfl

end Go.Proofs.YthacjeeafnblmaaDoor

namespace Go.Proofs.YthacjeeafnblmaaDoor
open Go.RowKit Go.Maps Go.Sort Go.WideMaps

def blanks : List Value := [.string ⟨#[]⟩, .slice none 0 0, .int .i64 0]
def blankE : Ent := ([], [], 0)

end Go.Proofs.YthacjeeafnblmaaDoor
