/- A list of acts that came in. Numbers and types by name. -/
import Derived.Test.YtloccomlnnndoaaKeeP
import Derived.Deep.Slices
namespace Go.Proofs.Ytloccomlnnndoaa
open Go.ChangeShapes Go.WideShapes Go.ChangeAt Go.RowKit Go.Deep

/-- What lies at act i of a row that begins at a. -/
structure ActAt (w : World) (a : Addr) (i : Nat) (dd : Int) (nm to : ByteArray) (lB lF lK : Nat) : Prop where
  c0 : w.cell? (a.add (i * 10)) = some (.int .i64 dd)
  c1 : w.cell? (a.add (i * 10 + 1)) = some (.string nm)
  c2 : w.cell? (a.add (i * 10 + 2)) = some (.string to)
  c3 : ∃ ao c, w.cell? (a.add (i * 10 + 3)) = some (.slice ao lB c)
  c6 : ∃ ao c, w.cell? (a.add (i * 10 + 6)) = some (.slice ao lF c)
  c9 : ∃ ao c, w.cell? (a.add (i * 10 + 9)) = some (.slice ao lK c)
  nm : nm.size ≤ maxLen
  to : to.size ≤ maxLen
  lB : lB ≤ maxLen
  lF : lF ≤ maxLen
  lK : lK ≤ maxLen

theorem cells10 : Try.prog.cellsOf 35 = 10 := by kernel_rfl
theorem cells5 : Try.prog.cellsOf 24 = 5 := by kernel_rfl
theorem cellsI : Try.prog.cellsOf 3 = 1 := by kernel_rfl
theorem cellsS : Try.prog.cellsOf 9 = 1 := by kernel_rfl
theorem cellsB : Try.prog.cellsOf 33 = 1 := by kernel_rfl
theorem cellsL : Try.prog.cellsOf 22 = 1 := by kernel_rfl

theorem open_len {H : Type} {enc : TypeId × Value → H} {W : World} {base : Nat} {spare : Nat → Bool} {held : Bool} {fuel : Nat} {t e : TypeId} {c : Value} {x : DataW H × List MemPlace} (ht : Try.prog.underlying t = some (.slice e))
    (h : DataW.trod enc Try.prog W base spare held fuel t [c] = some x) : ∃ ao l cp, c = .slice ao l cp ∧ l ≤ maxLen := by
  rcases open_slice ht h with ⟨hcs, _⟩ | ⟨a, len', cap', m, n, D, Pl, hcs, _, hl, hm, _⟩
  · simp only [List.cons.injEq, and_true] at hcs
    exact ⟨_, _, _, hcs, Nat.zero_le _⟩
  · simp only [List.cons.injEq, and_true] at hcs
    exact ⟨_, _, _, hcs, Nat.le_trans hl hm⟩

set_option maxRecDepth 100000 in
theorem open_acts {H : Type} {enc : TypeId × Value → H} {W : World} {base : Nat} {spare : Nat → Bool} {held : Bool} {fuel : Nat} {a0 : Option Addr} {len cap : Nat} {x : DataW H × List MemPlace}
    (h : DataW.trod enc Try.prog W base spare held fuel 25 [.slice a0 len cap] = some x) : (a0 = none ∧ len = 0) ∨ ∃ a, a0 = some a ∧ len ≤ cap ∧ cap ≤ maxLen ∧ ∀ i, i < len → ∃ d nm to lB lF lK, ActAt W a i d nm to lB lF lK := by
  rcases open_slice Try.underlying25 h with ⟨hcs, _⟩ | ⟨a, len', cap', m, n, D, Pl, hcs, _, hl, hm, hmm, hx, hi⟩
  · simp only [List.cons.injEq, Value.slice.injEq, and_true] at hcs
    exact .inl ⟨hcs.1, hcs.2.1⟩
  · simp only [List.cons.injEq, Value.slice.injEq, and_true] at hcs
    obtain ⟨rfl, rfl, rfl⟩ := hcs
    refine .inr ⟨a, rfl, hl, hm, fun i hil => ?_⟩
    have him : i < m := by rw [hmm]; split <;> omega
    obtain ⟨cs', hc, ht'⟩ := hi i him
    rw [cells10] at hc
    obtain ⟨ys, n', _, _, hlen, hyl, hf⟩ := DataW.trod_struct Try.underlying35 ht'
    rw [cells10] at hlen
    obtain ⟨_, hcl, hat⟩ := World.cells?_some hc
    match cs', hlen with
    | [c0, c1, c2, c3, c4, c5, c6, c7, c8, c9], _ =>
      have f0 := hf 0 _ rfl
      have f1 := hf 1 _ rfl
      have f2 := hf 2 _ rfl
      have f3 := hf 3 _ rfl
      have f5 := hf 5 _ rfl
      rw [show ys[0]? = some (ys[0]'(by rw [hyl]; decide)) from List.getElem?_eq_getElem _] at f0
      rw [show ys[1]? = some (ys[1]'(by rw [hyl]; decide)) from List.getElem?_eq_getElem _] at f1
      rw [show ys[2]? = some (ys[2]'(by rw [hyl]; decide)) from List.getElem?_eq_getElem _] at f2
      rw [show ys[3]? = some (ys[3]'(by rw [hyl]; decide)) from List.getElem?_eq_getElem _] at f3
      rw [show ys[5]? = some (ys[5]'(by rw [hyl]; decide)) from List.getElem?_eq_getElem _] at f5
      change DataW.trod enc Try.prog W base spare held n' 3 (List.take (Try.prog.cellsOf 3) (List.drop 0 [c0, c1, c2, c3, c4, c5, c6, c7, c8, c9])) = _ at f0
      change DataW.trod enc Try.prog W base spare held n' 9 (List.take (Try.prog.cellsOf 9) (List.drop 1 [c0, c1, c2, c3, c4, c5, c6, c7, c8, c9])) = _ at f1
      change DataW.trod enc Try.prog W base spare held n' 9 (List.take (Try.prog.cellsOf 9) (List.drop 2 [c0, c1, c2, c3, c4, c5, c6, c7, c8, c9])) = _ at f2
      change DataW.trod enc Try.prog W base spare held n' 33 (List.take (Try.prog.cellsOf 33) (List.drop 3 [c0, c1, c2, c3, c4, c5, c6, c7, c8, c9])) = _ at f3
      change DataW.trod enc Try.prog W base spare held n' 24 (List.take (Try.prog.cellsOf 24) (List.drop 5 [c0, c1, c2, c3, c4, c5, c6, c7, c8, c9])) = _ at f5
      rw [cellsI] at f0
      rw [cellsS] at f1 f2
      rw [cellsB] at f3
      rw [cells5] at f5
      change DataW.trod enc Try.prog W base spare held n' 3 [c0] = _ at f0
      change DataW.trod enc Try.prog W base spare held n' 9 [c1] = _ at f1
      change DataW.trod enc Try.prog W base spare held n' 9 [c2] = _ at f2
      change DataW.trod enc Try.prog W base spare held n' 33 [c3] = _ at f3
      change DataW.trod enc Try.prog W base spare held n' 24 [c5, c6, c7, c8, c9] = _ at f5
      obtain ⟨d, e0, _, _⟩ := DataW.trod_int Try.underlying3 f0
      obtain ⟨nm, e1, _, h1⟩ := DataW.trod_string Try.underlying9 f1
      obtain ⟨to, e2, _, h2⟩ := DataW.trod_string Try.underlying9 f2
      obtain ⟨aoB, lB, cB, rfl, hB⟩ := open_len Try.underlying33 f3
      obtain ⟨zs, n2, _, _, _, hzl, hg⟩ := DataW.trod_struct Try.underlying24 f5
      have g1 := hg 1 _ rfl
      have g4 := hg 4 _ rfl
      rw [show zs[1]? = some (zs[1]'(by rw [hzl]; decide)) from List.getElem?_eq_getElem _] at g1
      rw [show zs[4]? = some (zs[4]'(by rw [hzl]; decide)) from List.getElem?_eq_getElem _] at g4
      change DataW.trod enc Try.prog W base spare held n2 22 (List.take (Try.prog.cellsOf 22) (List.drop 1 [c5, c6, c7, c8, c9])) = _ at g1
      change DataW.trod enc Try.prog W base spare held n2 22 (List.take (Try.prog.cellsOf 22) (List.drop 4 [c5, c6, c7, c8, c9])) = _ at g4
      rw [cellsL] at g1 g4
      change DataW.trod enc Try.prog W base spare held n2 22 [c6] = _ at g1
      change DataW.trod enc Try.prog W base spare held n2 22 [c9] = _ at g4
      obtain ⟨aoF, lF, cF, rfl, hF⟩ := open_len Try.underlying22 g1
      obtain ⟨aoK, lK, cK, rfl, hK⟩ := open_len Try.underlying22 g4
      simp only [List.cons.injEq, and_true] at e0 e1 e2
      subst e0 e1 e2
      have hat' : ∀ j, j < 10 → W.cell? (a.add (i * 10 + j)) = [Value.int .i64 d, .string nm, .string to, .slice aoB lB cB, c4, c5, .slice aoF lF cF, c7, c8, .slice aoK lK cK][j]? := by
        intro j hj
        have := hat j hj
        rw [Go.Deep.add_add] at this
        exact this
      exact ⟨d, nm, to, lB, lF, lK, ⟨by simpa using hat' 0 (by omega), by simpa using hat' 1 (by omega), by simpa using hat' 2 (by omega), ⟨aoB, cB, by simpa using hat' 3 (by omega)⟩, ⟨aoF, cF, by simpa using hat' 6 (by omega)⟩, ⟨aoK, cK, by simpa using hat' 9 (by omega)⟩, h1, h2, hB, hF, hK⟩⟩

end Go.Proofs.Ytloccomlnnndoaa
