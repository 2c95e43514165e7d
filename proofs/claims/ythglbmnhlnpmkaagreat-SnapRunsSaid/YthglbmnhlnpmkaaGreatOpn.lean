/- A list of acts that came in, of bounded bulk; a plan. Numbers and types by name. -/
import Derived.Test.YthglbmnhlnpmkaaGreatRows
import Derived.Test.YthglbmnhlnpmkaaGreatBe4
import Derived.Test.YthglbmnhlnpmkaaGreatPr
import Derived.ProofKit
import Derived.Deep.Slices
namespace Go.Proofs.YthglbmnhlnpmkaaGreat
open Go.ChangeShapes Go.WideShapes Go.ChangeAt Go.RowKit Go.Deep

theorem cells5 : Tryz.prog.cellsOf 29 = 5 := by kernel_rfl
theorem cellsI : Tryz.prog.cellsOf 3 = 1 := by kernel_rfl
theorem cellsS : Tryz.prog.cellsOf 9 = 1 := by kernel_rfl
theorem cellsB : Tryz.prog.cellsOf 46 = 1 := by kernel_rfl
theorem cellsL : Tryz.prog.cellsOf 27 = 1 := by kernel_rfl
theorem cellsT : Tryz.prog.cellsOf 4 = 1 := by kernel_rfl
theorem cellsU : Tryz.prog.cellsOf 5 = 1 := by kernel_rfl

theorem bulk_pos {H : Type} (d : DataW H) : 1 ≤ Rows.uptoBulk d := by
  cases d with
  | lit l => cases l <;> simp [Rows.uptoBulk]
  | _ => simp [Rows.uptoBulk]
theorem bulk_part {H : Type} {d : DataW H} {l : List (DataW H)} (h : d ∈ l) : Rows.uptoBulk d ≤ Rows.uptoBulkAll l := by
  induction l with
  | nil => cases h
  | cons x r ih =>
    simp only [Rows.uptoBulkAll]
    rcases List.mem_cons.1 h with rfl | h
    · omega
    · have := ih h; omega
theorem bulk_len {H : Type} (l : List (DataW H)) : l.length ≤ Rows.uptoBulkAll l := by
  induction l with
  | nil => simp
  | cons x r ih =>
    have := bulk_pos x
    simp only [Rows.uptoBulkAll, List.length_cons]
    omega

/-- A []byte that came in. -/
theorem open_bytesU {H : Type} {enc : TypeId × Value → H} {W : World} {base : Nat} {spare : Nat → Bool} {held : Bool} {fuel : Nat} {c : Value} {x : DataW H × List MemPlace}
    (h : DataW.trod enc Tryz.prog W base spare held fuel 46 [c] = some x) : ∃ (ao : Option Addr) (cp : Nat) (A : List UInt8), c = .slice ao A.length cp ∧ Reads W (.slice ao A.length cp) (bv A) ∧ A.length ≤ maxLen ∧ A.length ≤ Rows.uptoBulk x.1 := by
  rcases open_ints Tryz.underlying46 Tryz.underlying5 cellsU h with ⟨hcs, _⟩ | ⟨a, len, cap, zs, hcs, _, hl, hm, hz, hx, hcell, hwz⟩
  · simp only [List.cons.injEq, and_true] at hcs
    exact ⟨none, 0, [], hcs, Reads.nil W, Nat.zero_le _, Nat.zero_le _⟩
  · simp only [List.cons.injEq, and_true] at hcs
    have hzl : len ≤ zs.length := by rw [hz]; split <;> omega
    have hAl : ((zs.take len).map fun n => UInt8.ofNat n.toNat).length = len := by simp; omega
    refine ⟨some a, cap, (zs.take len).map fun n => UInt8.ofNat n.toNat, by rw [hAl]; exact hcs, ?_, by rw [hAl]; exact Nat.le_trans hl hm, ?_⟩
    · refine ⟨some a, cap, by simp [bv], by simp [bv]; omega, (fun e => by cases e), fun a' ha j u hj => ?_⟩
      cases ha
      have hj1 : j < len := by
        have := (List.getElem?_eq_some_iff.1 hj).1
        simp [bv] at this
        omega
      have hjz : j < zs.length := by omega
      rw [hcell j hjz]
      have hw := hwz (zs[j]) (List.getElem_mem hjz)
      have hr : 0 ≤ zs[j] ∧ zs[j] ≤ 255 := by simpa [Lit.wf, IntKind.min, IntKind.max, IntKind.signed, IntKind.bits] using hw
      have e : (bv ((zs.take len).map fun n => UInt8.ofNat n.toNat))[j]? = some (.int .u8 ((UInt8.ofNat (zs[j]).toNat).toNat : Int)) := by
        simp [bv, List.getElem?_take, hj1, List.getElem?_eq_getElem hjz]
      rw [e] at hj
      cases hj
      have e2 : ((UInt8.ofNat (zs[j]).toNat).toNat : Int) = zs[j] := by
        rw [UInt8.toNat_ofNat']
        omega
      rw [e2]
      simp [List.getElem?_eq_getElem hjz]
    · rw [hAl, hx]
      have h1 := bulk_len (H := H) (lits .u8 (zs.take len))
      have h2 : (lits (H := H) .u8 (zs.take len)).length = len := by simp [lits]; omega
      simp only [Rows.uptoBulk]
      omega

/-- A []int that came in. -/
theorem open_intsU {H : Type} {enc : TypeId × Value → H} {W : World} {base : Nat} {spare : Nat → Bool} {held : Bool} {fuel : Nat} {c : Value} {x : DataW H × List MemPlace}
    (h : DataW.trod enc Tryz.prog W base spare held fuel 27 [c] = some x) : ∃ (ao : Option Addr) (cp : Nat) (A : List Int), c = .slice ao A.length cp ∧ Reads W (.slice ao A.length cp) (iv A) ∧ A.length ≤ maxLen := by
  rcases open_ints Tryz.underlying27 Tryz.underlying3 cellsI h with ⟨hcs, _⟩ | ⟨a, len, cap, zs, hcs, _, hl, hm, hz, hx, hcell, hwz⟩
  · simp only [List.cons.injEq, and_true] at hcs
    exact ⟨none, 0, [], hcs, Reads.nil W, Nat.zero_le _⟩
  · simp only [List.cons.injEq, and_true] at hcs
    have hzl : len ≤ zs.length := by rw [hz]; split <;> omega
    have hAl : (zs.take len).length = len := by simp; omega
    refine ⟨some a, cap, zs.take len, by rw [hAl]; exact hcs, ?_, by rw [hAl]; exact Nat.le_trans hl hm⟩
    refine ⟨some a, cap, by simp [iv], by simp [iv]; omega, (fun e => by cases e), fun a' ha j u hj => ?_⟩
    cases ha
    have hj1 : j < len := by
      have := (List.getElem?_eq_some_iff.1 hj).1
      simp [iv] at this
      omega
    have hjz : j < zs.length := by omega
    rw [hcell j hjz]
    have e : (iv (zs.take len))[j]? = some (.int .i64 zs[j]) := by
      simp [iv, List.getElem?_take, hj1, List.getElem?_eq_getElem hjz]
    rw [e] at hj
    cases hj
    simp [List.getElem?_eq_getElem hjz]

/-- A plan's values. -/
structure PV where
  cap : Int
  aF : Option Addr
  cF : Nat
  zs : List Int
  cr : Int
  dn : Bool
  aK : Option Addr
  cK : Nat
  ks : List Int
/-- What is known of a plan. -/
structure PlanOk (w : World) (p : PV) : Prop where
  cap : p.cap ≤ 9223372036854775807
  rF : Reads w (.slice p.aF p.zs.length p.cF) (iv p.zs)
  rK : Reads w (.slice p.aK p.ks.length p.cK) (iv p.ks)
  lF : p.zs.length ≤ maxLen
  lK : p.ks.length ≤ maxLen
/-- An act's values. -/
structure AV where
  d : Int
  nm : ByteArray
  to : ByteArray
  aB : Option Addr
  cB : Nat
  l : List UInt8
  n : Int
  p : PV

/-- What lies at act i of a row that begins at a. -/
structure ActAt (w : World) (a : Addr) (i : Nat) (v : AV) : Prop where
  c0 : w.cell? (a.add (i * 10)) = some (.int .i64 v.d)
  c1 : w.cell? (a.add (i * 10 + 1)) = some (.string v.nm)
  c2 : w.cell? (a.add (i * 10 + 2)) = some (.string v.to)
  c3 : w.cell? (a.add (i * 10 + 3)) = some (.slice v.aB v.l.length v.cB)
  c4 : w.cell? (a.add (i * 10 + 4)) = some (.int .i64 v.n)
  c5 : w.cell? (a.add (i * 10 + 5)) = some (.int .i64 v.p.cap)
  c6 : w.cell? (a.add (i * 10 + 6)) = some (.slice v.p.aF v.p.zs.length v.p.cF)
  c7 : w.cell? (a.add (i * 10 + 7)) = some (.int .i64 v.p.cr)
  c8 : w.cell? (a.add (i * 10 + 8)) = some (.bool v.p.dn)
  c9 : w.cell? (a.add (i * 10 + 9)) = some (.slice v.p.aK v.p.ks.length v.p.cK)
  nm : v.nm.size ≤ maxLen
  to : v.to.size ≤ maxLen
  rB : Reads w (.slice v.aB v.l.length v.cB) (bv v.l)
  lB : v.l.length ≤ 1048576
  plan : PlanOk w v.p

theorem open_plan {H : Type} {enc : TypeId × Value → H} {W : World} {base : Nat} {spare : Nat → Bool} {held : Bool} {fuel : Nat} {c0 c1 c2 c3 c4 : Value} {x : DataW H × List MemPlace}
    (h : DataW.trod enc Tryz.prog W base spare held fuel 29 [c0, c1, c2, c3, c4] = some x) :
    ∃ p : PV, c0 = .int .i64 p.cap ∧ c1 = .slice p.aF p.zs.length p.cF ∧ c2 = .int .i64 p.cr ∧ c3 = .bool p.dn ∧ c4 = .slice p.aK p.ks.length p.cK ∧ PlanOk W p := by
  obtain ⟨ys, n2, _, _, _, hyl, hg⟩ := DataW.trod_struct Tryz.underlying29 h
  have g0 := hg 0 _ rfl
  have g1 := hg 1 _ rfl
  have g2 := hg 2 _ rfl
  have g3 := hg 3 _ rfl
  have g4 := hg 4 _ rfl
  rw [show ys[0]? = some (ys[0]'(by rw [hyl]; decide)) from List.getElem?_eq_getElem _] at g0
  rw [show ys[1]? = some (ys[1]'(by rw [hyl]; decide)) from List.getElem?_eq_getElem _] at g1
  rw [show ys[2]? = some (ys[2]'(by rw [hyl]; decide)) from List.getElem?_eq_getElem _] at g2
  rw [show ys[3]? = some (ys[3]'(by rw [hyl]; decide)) from List.getElem?_eq_getElem _] at g3
  rw [show ys[4]? = some (ys[4]'(by rw [hyl]; decide)) from List.getElem?_eq_getElem _] at g4
  change DataW.trod enc Tryz.prog W base spare held n2 3 (List.take (Tryz.prog.cellsOf 3) (List.drop 0 [c0, c1, c2, c3, c4])) = _ at g0
  change DataW.trod enc Tryz.prog W base spare held n2 27 (List.take (Tryz.prog.cellsOf 27) (List.drop 1 [c0, c1, c2, c3, c4])) = _ at g1
  change DataW.trod enc Tryz.prog W base spare held n2 3 (List.take (Tryz.prog.cellsOf 3) (List.drop 2 [c0, c1, c2, c3, c4])) = _ at g2
  change DataW.trod enc Tryz.prog W base spare held n2 4 (List.take (Tryz.prog.cellsOf 4) (List.drop 3 [c0, c1, c2, c3, c4])) = _ at g3
  change DataW.trod enc Tryz.prog W base spare held n2 27 (List.take (Tryz.prog.cellsOf 27) (List.drop 4 [c0, c1, c2, c3, c4])) = _ at g4
  rw [cellsI] at g0 g2
  rw [cellsL] at g1 g4
  rw [cellsT] at g3
  change DataW.trod enc Tryz.prog W base spare held n2 3 [c0] = _ at g0
  change DataW.trod enc Tryz.prog W base spare held n2 27 [c1] = _ at g1
  change DataW.trod enc Tryz.prog W base spare held n2 3 [c2] = _ at g2
  change DataW.trod enc Tryz.prog W base spare held n2 4 [c3] = _ at g3
  change DataW.trod enc Tryz.prog W base spare held n2 27 [c4] = _ at g4
  obtain ⟨cap, e0, _, w0⟩ := DataW.trod_int Tryz.underlying3 g0
  obtain ⟨aF, cF, zs, e1, r1, l1⟩ := open_intsU g1
  obtain ⟨cr, e2, _, _⟩ := DataW.trod_int Tryz.underlying3 g2
  obtain ⟨dn, e3, _⟩ := DataW.trod_bool Tryz.underlying4 g3
  obtain ⟨aK, cK, ks, e4, r4, l4⟩ := open_intsU g4
  simp only [List.cons.injEq, and_true] at e0 e2 e3
  refine ⟨⟨cap, aF, cF, zs, cr, dn, aK, cK, ks⟩, e0, e1, e2, e3, e4, ?_, r1, r4, l1, l4⟩
  have := w0
  simp [Lit.wf, IntKind.min, IntKind.max, IntKind.signed, IntKind.bits] at this
  exact this.2

end Go.Proofs.YthglbmnhlnpmkaaGreat
