/- Rows of whatever elements: what is read of them, append to own ones. Numbers and types by name. -/
import Derived.Test.YtlgfijjkbomejaaGreatDoorBas
import Derived.ProofKit
import Derived.Deep.Slices
import Derived.Test.YtlgfijjkbomejaaGreatDoorBe4
import Derived.Test.YtlgfijjkbomejaaGreatDoorTxt
import Derived.Test.YtlgfijjkbomejaaGreatDoorBel
/- Lists of bytes that came in. Numbers and types by name. -/
namespace Go.Proofs.YtlgfijjkbomejaaGreatDoor
open Go.ChangeShapes Go.WideShapes Go.ChangeAt Go.RowKit Go.Lib Go.Deep

theorem ownKnobK : ownKnob Tryz.prog.godebug = none := by kernel_rfl
theorem laidOutK : laidOutB Tryz.prog = true := by kernel_rfl
theorem cellsByteK : Tryz.prog.cellsOf 5 = 1 := by kernel_rfl
/-- A []byte that came in reads as bytes. -/
theorem open_bytes {H : Type} {enc : TypeId × Value → H} {W : World} {base : Nat} {spare : Nat → Bool} {held : Bool} {fuel : Nat} {a0 : Option Addr} {len cap : Nat} {x : DataW H × List MemPlace}
    (h : DataW.trod enc Tryz.prog W base spare held fuel 45 [.slice a0 len cap] = some x) : ∃ A : List UInt8, A.length = len ∧ Reads W (.slice a0 len cap) (bv A) ∧ len ≤ maxLen := by
  rcases open_ints Tryz.underlying45 Tryz.underlying5 cellsByteK h with ⟨hcs, _⟩ | ⟨a, len', cap', zs, hcs, _, hl, hm, hz, _, hcell, hwz⟩
  · simp only [List.cons.injEq, Value.slice.injEq, and_true] at hcs
    obtain ⟨rfl, rfl, rfl⟩ := hcs
    exact ⟨[], rfl, Reads.nil W, Nat.zero_le _⟩
  · simp only [List.cons.injEq, Value.slice.injEq, and_true] at hcs
    obtain ⟨rfl, rfl, rfl⟩ := hcs
    have hzl : len ≤ zs.length := by rw [hz]; split <;> omega
    refine ⟨(zs.take len).map fun n => UInt8.ofNat n.toNat, by simp; omega, ⟨some a, cap, by simp [bv]; omega, by simp [bv]; omega, (fun e => by cases e), fun a' ha j u hj => ?_⟩, Nat.le_trans hl hm⟩
    cases ha
    have hj1 : j < len := by
      have := (List.getElem?_eq_some_iff.1 hj).1
      simp [bv] at this
      omega
    have hjz : j < zs.length := by omega
    rw [hcell j hjz]
    have hw := hwz (zs[j]) (List.getElem_mem hjz)
    have hr : 0 ≤ zs[j] ∧ zs[j] ≤ 255 := by simpa [Lit.wf, IntKind.min, IntKind.max, IntKind.signed, IntKind.bits] using hw
    have e : (bv ((zs.take len).map fun n => UInt8.ofNat n.toNat))[j]? = some (.int .u8 ((UInt8.ofNat (zs[j]).toNat).toNat : Int)) := by
      simp [bv, List.getElem?_take, hj1, List.getElem?_eq_getElem hjz]
    rw [e] at hj
    cases hj
    have e2 : ((UInt8.ofNat (zs[j]).toNat).toNat : Int) = zs[j] := by
      rw [UInt8.toNat_ofNat']
      omega
    rw [e2]
    simp [List.getElem?_eq_getElem hjz]

end Go.Proofs.YtlgfijjkbomejaaGreatDoor

/- The reference's lexer: letters, digits, key words, signs. Numbers and types by name. -/
namespace Go.Proofs.YtlgfijjkbomejaaGreatDoor
open Go.RowKit Go.Lib
set_option maxRecDepth 100000

/-- Bytes as a text. -/
def tx (l : List UInt8) : ByteArray := ⟨l.toArray⟩
theorem tx_list (l : List UInt8) : (tx l).toList = l := by
  unfold tx
  simp
theorem tx_size (l : List UInt8) : (tx l).size = l.length := rfl
theorem tx_cut (l : List UInt8) (a b : Nat) : (tx l).extract a b = tx ((l.drop a).take (b - a)) := ByteArray.extract_mk l a b
theorem tx_at {l : List UInt8} {k : Nat} {c : UInt8} (h : l[k]? = some c) (hk : k < (tx l).size) : (tx l)[k]'hk = c := by
  obtain ⟨h1, h2⟩ := List.getElem?_eq_some_iff.1 h
  exact h2

theorem ref_letter (c : UInt8) (w : World) : Calls Tryz.prog 61 #[.int .u8 (c.toNat : Int)] w fun e w' => e = .returned (.bool (isLet c)) ∧ w = w' := by
  unfold isLet
  generalize c.toNat = k
  by_cases h1 : 97 ≤ k
  · have h2 : (97 : Int) ≤ (k : Int) := by omega
    by_cases h3 : k ≤ 122
    · have h4 : (k : Int) ≤ (122 : Int) := by omega
      go_enter Tryz.func61, Tryz.ntmps61
      go_wp2_with fail
      go_ret
      exact ⟨by simp [h1, h3], rfl⟩
    · have h4 : ¬ (k : Int) ≤ (122 : Int) := by omega
      go_enter Tryz.func61, Tryz.ntmps61
      go_wp2_with fail
      go_ret
      exact ⟨by simp [h3], rfl⟩
  · have h2 : ¬ (97 : Int) ≤ (k : Int) := by omega
    go_enter Tryz.func61, Tryz.ntmps61
    go_wp2_with fail
    go_ret
    exact ⟨by simp [h1], rfl⟩
theorem ref_digit (c : UInt8) (w : World) : Calls Tryz.prog 62 #[.int .u8 (c.toNat : Int)] w fun e w' => e = .returned (.bool (isDig c)) ∧ w = w' := by
  unfold isDig
  generalize c.toNat = k
  by_cases h1 : 48 ≤ k
  · have h2 : (48 : Int) ≤ (k : Int) := by omega
    by_cases h3 : k ≤ 57
    · have h4 : (k : Int) ≤ (57 : Int) := by omega
      go_enter Tryz.func62, Tryz.ntmps62
      go_wp2_with fail
      go_ret
      exact ⟨by simp [h1, h3], rfl⟩
    · have h4 : ¬ (k : Int) ≤ (57 : Int) := by omega
      go_enter Tryz.func62, Tryz.ntmps62
      go_wp2_with fail
      go_ret
      exact ⟨by simp [h3], rfl⟩
  · have h2 : ¬ (48 : Int) ≤ (k : Int) := by omega
    go_enter Tryz.func62, Tryz.ntmps62
    go_wp2_with fail
    go_ret
    exact ⟨by simp [h1], rfl⟩

theorem ref_key (l : List UInt8) (w : World) : Calls Tryz.prog 63 #[.string (tx l)] w fun e w' => e = .returned (.bool (keysL.contains l)) ∧ w = w' := by
  have hl := tx_list l
  go_enter Tryz.func63, Tryz.ntmps63
  go_wp2_with fail
  all_goals first
    | (rename_i h1 h2
       rw [h1] at h2
       exact absurd h2 (by decide))
    | (rename_i h1
       obtain rfl := eq_of_beq h1
       go_ret
       exact ⟨rfl, rfl⟩)
    | (rename_i h1 h2
       obtain rfl := eq_of_beq h1
       go_ret
       exact ⟨rfl, rfl⟩)
    | (go_ret
       refine ⟨?_, rfl⟩
       simp_all [keysL])

theorem ref_keyB {l : List UInt8} {B : Bool} (h : keysL.contains l = B) (w : World) : Calls Tryz.prog 63 #[.string (tx l)] w fun e w' => e = .returned (.bool B) ∧ w = w' := h ▸ ref_key l w

/-- What stands from an offset on. -/
theorem drop_at {l : List UInt8} {i : Nat} {c : UInt8} {r : List UInt8} (h : l.drop i = c :: r) : l[i]? = some c ∧ l.drop (i + 1) = r ∧ i < l.length := by
  have h1 : i < l.length := by
    by_cases hh : i < l.length
    · exact hh
    · rw [List.drop_eq_nil_of_le (by omega)] at h
      cases h
  have h2 : (l.drop i)[0]? = some c := by rw [h]; rfl
  rw [List.getElem?_drop, Nat.add_zero] at h2
  refine ⟨h2, ?_, h1⟩
  rw [← List.drop_drop, h]
  rfl

theorem slice_tx {l : List UInt8} {i j : Nat} {o : List UInt8} (h1 : i ≤ j) (h2 : j ≤ l.length) (ho : (l.drop i).take (j - i) = o) {a b : Int} (ha : a = i) (hb : b = j) (w : World) :
    Sem.run Tryz.prog (Instr.slice 9 (.string (tx l)) (some (.int .i64 a)) (some (.int .i64 b)) none) w = .ok (.string (tx o)) w := by
  subst ha hb
  rw [run_slice_string w _ _ _ _ _ _ (by kernel_rfl) (by omega) (by omega) (by rw [tx_size]; omega), tx_cut]
  rw [Int.toNat_natCast, Int.toNat_natCast, ho]
theorem u8_ne {c d : UInt8} (h : ((c.toNat : Int) == (d.toNat : Int)) = false) : c ≠ d := by
  rintro rfl
  simp at h
theorem u8_eq {c d : UInt8} (h : ((c.toNat : Int) == (d.toNat : Int)) = true) : c = d := UInt8.toNat_inj.1 (by have := eq_of_beq h; omega)
theorem oneL_int (c : UInt8) : oneL c = (((c.toNat : Int) == 40) || ((c.toNat : Int) == 41) || ((c.toNat : Int) == 123) || ((c.toNat : Int) == 125) || ((c.toNat : Int) == 44) || ((c.toNat : Int) == 59) || ((c.toNat : Int) == 58) || ((c.toNat : Int) == 46) || ((c.toNat : Int) == 61) || ((c.toNat : Int) == 60) || ((c.toNat : Int) == 43) || ((c.toNat : Int) == 45) || ((c.toNat : Int) == 42) || ((c.toNat : Int) == 47) || ((c.toNat : Int) == 37) || ((c.toNat : Int) == 33)) := by
  have e : ∀ d : UInt8, (c == d) = ((c.toNat : Int) == (d.toNat : Int)) := fun d => by
    rw [Bool.eq_iff_iff, beq_iff_eq, beq_iff_eq, ← UInt8.toNat_inj]
    omega
  unfold oneL
  simp only [e]
  rfl

theorem ref_sign1 (l : List UInt8) (i : Nat) (c : UInt8) (h : l.drop i = [c]) (hm : l.length ≤ 9000) (w : World) :
    Calls Tryz.prog 64 #[.string (tx l), .int .i64 (i : Int)] w fun e w' => e = .returned (.string (tx ([c].take (signL [c])))) ∧ w = w' := by
  obtain ⟨hc, hr, hi⟩ := drop_at h
  have hsz := tx_size l
  have hb := tx_at hc (by rw [hsz]; exact hi)
  have hlen : l.length = i + 1 := by
    have := congrArg List.length hr
    simp only [List.length_drop, List.length_nil] at this
    omega
  have s1 := slice_tx (l := l) (i := i) (j := i + 1) (o := [c]) (by omega) (by omega) (by rw [h]; rw [show i + 1 - i = 1 by omega]; rfl) (a := (i : Int)) (b := (i : Int) + 1) rfl (by omega)
  have hS : [c].take (signL [c]) = if oneL c = true then [c] else [] := by
    show [c].take (if oneL c = true then 1 else 0) = _
    split <;> rfl
  rw [hS, oneL_int]
  obtain ⟨X, hX⟩ : ∃ X, X = tx (if (((c.toNat : Int) == 40) || ((c.toNat : Int) == 41) || ((c.toNat : Int) == 123) || ((c.toNat : Int) == 125) || ((c.toNat : Int) == 44) || ((c.toNat : Int) == 59) || ((c.toNat : Int) == 58) || ((c.toNat : Int) == 46) || ((c.toNat : Int) == 61) || ((c.toNat : Int) == 60) || ((c.toNat : Int) == 43) || ((c.toNat : Int) == 45) || ((c.toNat : Int) == 42) || ((c.toNat : Int) == 47) || ((c.toNat : Int) == 37) || ((c.toNat : Int) == 33)) = true then [c] else []) := ⟨_, rfl⟩
  rw [← hX]
  have H := Lib.hid (And.intro h hr)
  have HX := Lib.hid hX
  clear h hr hS hX
  go_enter Tryz.func64, Tryz.ntmps64
  go_wp2_with fail
  all_goals (go_ret; refine ⟨?_, rfl⟩; rw [HX.out]; simp_all; try rfl)
theorem twoL_list (c d : UInt8) : twoL c d = (([c, d] == [61, 61]) || ([c, d] == [60, 61]) || ([c, d] == [45, 62])) := by
  unfold twoL
  simp [List.cons_beq_cons]

theorem ref_sign2 (l : List UInt8) (i : Nat) (c d : UInt8) (r : List UInt8) (h : l.drop i = c :: d :: r) (hm : l.length ≤ 9000) (w : World) :
    Calls Tryz.prog 64 #[.string (tx l), .int .i64 (i : Int)] w fun e w' => e = .returned (.string (tx ((c :: d :: r).take (signL (c :: d :: r))))) ∧ w = w' := by
  obtain ⟨hc, hr, hi⟩ := drop_at h
  have hsz := tx_size l
  have hb := tx_at hc (by rw [hsz]; exact hi)
  have hi2 := (drop_at hr).2.2
  have hlen : ((i : Int) + 1 < (l.length : Int)) := by omega
  have hlt : (tx [c, d]).toList = [c, d] := tx_list _
  have s1 := slice_tx (l := l) (i := i) (j := i + 1) (o := [c]) (by omega) (by omega) (by rw [h]; rw [show i + 1 - i = 1 by omega]; rfl) (a := (i : Int)) (b := (i : Int) + 1) rfl (by omega)
  have s2 := slice_tx (l := l) (i := i) (j := i + 2) (o := [c, d]) (by omega) (by omega) (by rw [h]; rw [show i + 2 - i = 2 by omega]; rfl) (a := (i : Int)) (b := (i : Int) + 2) rfl (by omega)
  have hS : (c :: d :: r).take (signL (c :: d :: r)) = if twoL c d = true then [c, d] else if oneL c = true then [c] else [] := by
    show (c :: d :: r).take (if twoL c d = true then 2 else if oneL c = true then 1 else 0) = _
    split
    · rfl
    · split <;> rfl
  rw [hS, oneL_int, twoL_list]
  obtain ⟨b1, q1⟩ : ∃ b, ([c, d] == [61, 61]) = b := ⟨_, rfl⟩
  obtain ⟨b2, q2⟩ : ∃ b, ([c, d] == [60, 61]) = b := ⟨_, rfl⟩
  obtain ⟨b3, q3⟩ : ∃ b, ([c, d] == [45, 62]) = b := ⟨_, rfl⟩
  rw [q1, q2, q3]
  obtain ⟨X, hX⟩ : ∃ X, X = tx (if (b1 || b2 || b3) = true then [c, d] else if (((c.toNat : Int) == 40) || ((c.toNat : Int) == 41) || ((c.toNat : Int) == 123) || ((c.toNat : Int) == 125) || ((c.toNat : Int) == 44) || ((c.toNat : Int) == 59) || ((c.toNat : Int) == 58) || ((c.toNat : Int) == 46) || ((c.toNat : Int) == 61) || ((c.toNat : Int) == 60) || ((c.toNat : Int) == 43) || ((c.toNat : Int) == 45) || ((c.toNat : Int) == 42) || ((c.toNat : Int) == 47) || ((c.toNat : Int) == 37) || ((c.toNat : Int) == 33)) = true then [c] else []) := ⟨_, rfl⟩
  rw [← hX]
  have H := Lib.hid (And.intro h hr)
  have HX := Lib.hid hX
  clear h hr hS hX
  go_enter Tryz.func64, Tryz.ntmps64
  go_wp2_with fail
  all_goals (clear q1 q2 q3; go_ret; refine ⟨?_, rfl⟩; rw [HX.out]; simp_all; try rfl)
theorem ref_sign (l : List UInt8) (i : Nat) (c : UInt8) (r : List UInt8) (h : l.drop i = c :: r) (hm : l.length ≤ 9000) (w : World) :
    Calls Tryz.prog 64 #[.string (tx l), .int .i64 (i : Int)] w fun e w' => e = .returned (.string (tx ((c :: r).take (signL (c :: r))))) ∧ w = w' := by
  cases r with
  | nil => exact ref_sign1 l i c h hm w
  | cons d r => exact ref_sign2 l i c d r h hm w

end Go.Proofs.YtlgfijjkbomejaaGreatDoor

namespace Go.Proofs.YtlgfijjkbomejaaGreatDoor
open Go.RowKit Go.Lib

/-- A slice value whose cells, some for each element, are xs. -/
def Cells (w : World) (v : Value) (size n : Nat) (xs : List Value) : Prop :=
  ∃ ao cap, v = .slice ao n cap ∧ xs.length = n * size ∧ n ≤ cap ∧ (ao = none → n = 0 ∧ cap = 0) ∧ ∀ a, ao = some a → ∀ j u, xs[j]? = some u → w.cell? (a.add j) = some u

theorem Cells.later {w w' : World} {v : Value} {size n : Nat} {xs : List Value} (h : Cells w v size n xs) (hg : Grow w w') : Cells w' v size n xs := by
  obtain ⟨ao, cap, rfl, h0, h1, h2, h3⟩ := h
  refine ⟨ao, cap, rfl, h0, h1, h2, fun a ha j u hj => ?_⟩
  have hc := h3 a ha j u hj
  rw [World.cell?_of_block (hg.block _ (World.block_lt_of_cell? w _ hc))]
  exact hc

/-- An element type: its slices, its nought, how many cells, how many bytes. -/
structure Elem (sl el : TypeId) (z : Value) (size bytes : Nat) : Prop where
  under : Tryz.prog.underlying sl = some (.slice el)
  info : (Tryz.prog.info? el).map (fun i => (i.zero, i.size, i.bytes)) = some (some z, size, bytes)
  cells : z.cells.size = size
  pos : 0 < size

theorem Cells.own {w : World} {base e size : Nat} {v : Value} {n : Nat} {xs : List Value} (h : w.ownsRow base e size v n xs) (hs : 0 < size) : Cells w v size n xs := by
  rcases h.2 with ⟨rfl, h0⟩ | ⟨g, cap, cur, rfl, _, hg, hc, _, hz, ht⟩
  · have hl := h.1
    subst h0
    exact ⟨none, 0, rfl, hl, Nat.le_refl _, fun _ => ⟨rfl, rfl⟩, fun a h => by cases h⟩
  · refine ⟨some ⟨g, 0, none⟩, cap, rfl, h.1, hc, (fun h => by cases h), fun a ha j u hj => ?_⟩
    cases ha
    have hlt : j < xs.length := (List.getElem?_eq_some_iff.1 hj).1
    have hx : xs[j]? = cur[j]? := by
      rw [← ht, List.getElem?_take, if_pos (by rw [h.1] at hlt; exact hlt)]
      simp
    show w.cell? ((⟨g, 0, none⟩ : Addr).add j) = some u
    rw [Addr.add_lit]
    simp only [World.cell?, hg, Nat.zero_add]
    rw [← hx, hj]
    simp

theorem Cells.lit (w : World) (xs : List Value) (t : TypeId) (fr : Nat × Nat) (size n : Nat) (hn : xs.length = n * size) : Cells (w.alloc (.cells xs.toArray t fr)) (.slice (some ⟨w.heap.size, 0, none⟩) n n) size n xs := by
  refine ⟨some ⟨w.heap.size, 0, none⟩, n, rfl, hn, Nat.le_refl _, (fun h => by cases h), fun a ha j u hj => ?_⟩
  cases ha
  rw [Addr.add_lit, World.cell?_alloc_mark]
  simpa using hj

theorem Cells.of_reads {w : World} {v : Value} {xs : List Value} (h : Reads w v xs) : Cells w v 1 xs.length xs := by
  obtain ⟨ao, cap, rfl, h0, h1, h2⟩ := h
  exact ⟨ao, cap, rfl, by simp, h0, fun e => by have := h1 e; rw [this.1]; exact ⟨rfl, this.2⟩, h2⟩
theorem Reads.of_cells {w : World} {v : Value} {n : Nat} {xs : List Value} (h : Cells w v 1 n xs) : Reads w v xs ∧ xs.length = n := by
  obtain ⟨ao, cap, rfl, h0, h1, h2, h3⟩ := h
  have hl : xs.length = n := by omega
  exact ⟨⟨ao, cap, by rw [hl], by omega, fun e => by have := h2 e; exact ⟨List.eq_nil_of_length_eq_zero (by omega), this.2⟩, h3⟩, hl⟩

/-- append of whatever can be read to an own row. -/
theorem run_append_gen {sl el : TypeId} {z : Value} {size bytes : Nat} (E : Elem sl el z size bytes) (ty : TypeId) (base : Nat) (v : Value) (n : Nat) (xs : List Value) (w : World) (hown : w.ownsRow base el size v n xs) (vb : Value) (m : Nat) (news : List Value) (hr : Cells w vb size m news) (h1 : ∀ u ∈ news, u.oneCell' = true)
    (h63 : n + m ≤ maxLen) (hbytes : (n + m) * bytes ≤ 140737488355328) (hbase : base ≤ w.heap.size) :
    ∃ ao c w', (Builtin.append_ #[sl, sl] ty #[v, vb]).run Tryz.prog w = .ok (.slice ao (n + m) c) w' ∧ w'.ownsRow base el size (.slice ao (n + m) c) (n + m) (xs ++ news) ∧ w.grownBy w' v.ownBlock ∧
      ((Value.slice ao (n + m) c).ownBlock = v.ownBlock ∨ (Value.slice ao (n + m) c).ownBlock = some w.heap.size) := by
  obtain ⟨i0, hi, hz0, hz1, hz2⟩ := info_parts E.info
  obtain ⟨ao, cap, rfl, hl, _, hn, hc⟩ := hr
  have shape : ∀ {w : World} {v : Value} {n : Nat} {xs : List Value}, w.ownsRow base el size v n xs → ∃ ao c, v = .slice ao n c := by
    intro w v n xs h
    rcases h.2 with ⟨rfl, rfl⟩ | ⟨g, cap, cur, rfl, _⟩
    · exact ⟨none, 0, rfl⟩
    · exact ⟨_, _, rfl⟩
  cases ao with
  | none =>
    obtain ⟨rfl, rfl⟩ := hn rfl
    obtain rfl : news = [] := List.eq_nil_of_length_eq_zero (by simpa using hl)
    obtain ⟨ao, c, rfl⟩ := shape hown
    have := run_append_owned_none (P := Tryz.prog) w base sl ty el i0 size E.under hi (.slice ao n c) n xs hown
    exact ⟨ao, c, w, this, by simpa using hown, grown_refl _ _, .inl rfl⟩
  | some a =>
    obtain ⟨v', w', hr, h2, h3, _, h5⟩ := run_append_own_at (P := Tryz.prog) w base sl ty el i0 z size bytes E.under hi hz0 hz1 hz2 E.cells E.pos v n xs hown a m cap news hl (hc a rfl) h1 h63 hbytes hbase
    obtain ⟨ao, c, rfl⟩ := shape h2
    exact ⟨ao, c, w', hr, h2, h3, h5⟩

theorem wpList_append_gen {sl el : TypeId} {z : Value} {size bytes : Nat} (E : Elem sl el z size bytes) {ops : Array Oper} {rest : List Oper} {o : Oper} {a : Act} {w : World} {Q : Exit → Act → World → Prop} (hgd : o.guard = none) (s x : Operand)
    (ho : o.op = .call { callee := .builtin .append, args := #[s, x], argTypes := #[sl, sl] })
    (base : Nat) (v : Value) (n : Nat) (xs : List Value) (hs : a.eval s = v) (hown : w.ownsRow base el size v n xs) (vb : Value) (m : Nat) (news : List Value) (hx : a.eval x = vb) (hr : Cells w vb size m news) (h1 : ∀ u ∈ news, u.oneCell' = true)
    (p : Nat) (hp : p = n + m) (h63 : Hid (p ≤ 1000000)) (hby : bytes ≤ 1000) (hbase : base ≤ w.heap.size)
    (h : ∀ ao c w', w'.ownsRow base el size (.slice ao p c) p (xs ++ news) → Below base w w' → w.grownBy w' v.ownBlock → ((Value.slice ao p c).ownBlock = v.ownBlock ∨ (Value.slice ao p c).ownBlock = some w.heap.size) → wpList Tryz.prog ops Q rest (a.put o.dst (.slice ao p c)) w') : wpList Tryz.prog ops Q (o :: rest) a w := by
  subst hp
  have hb := h63.out
  refine wpList_plain hgd fun K hK => ?_
  obtain ⟨ao, c, w', hr', h2, h3, h4⟩ := run_append_gen E o.type base v n xs w hown vb m news hr h1 (by unfold maxLen; omega) (Nat.le_trans (Nat.mul_le_mul hb hby) (by decide)) hbase
  unfold Oper.wp execOp
  simp only [ho, resolve, invoke, builtin, Sem.run_bind, Sem.run_pure, Result.andThen_ok, List.map_toArray, List.map_cons, List.map_nil, hs, hx, hr']
  exact hK _ _ (h ao c w' h2 (below_grown_own hown h3 hbase) h3 h4)

theorem step_append_gen {sl el : TypeId} {z : Value} {size bytes : Nat} (E : Elem sl el z size bytes) {ops : Array Oper} {o : Oper} {a : Act} {w : World} {K : Act → World → Prop} {Q : Exit → Act → World → Prop} {F : Prop} (hgd : o.guard = none) (s x : Operand)
    (ho : o.op = .call { callee := .builtin .append, args := #[s, x], argTypes := #[sl, sl] })
    (base : Nat) (v : Value) (n : Nat) (xs : List Value) (hs : a.eval s = v) (hown : w.ownsRow base el size v n xs) (vb : Value) (m : Nat) (news : List Value) (hx : a.eval x = vb) (hr : Cells w vb size m news) (h1 : ∀ u ∈ news, u.oneCell' = true)
    (p : Nat) (hp : p = n + m) (h63 : Hid (p ≤ 1000000)) (hby : bytes ≤ 1000) (hbase : base ≤ w.heap.size)
    (h : ∀ ao c w', w'.ownsRow base el size (.slice ao p c) p (xs ++ news) → Below base w w' → w.grownBy w' v.ownBlock → ((Value.slice ao p c).ownBlock = v.ownBlock ∨ (Value.slice ao p c).ownBlock = some w.heap.size) → K (a.put o.dst (.slice ao p c)) w') :
    if Region.wanted o (yielded ops a.tmps) = true then Oper.wp Tryz.prog o a w K Q else F := by
  subst hp
  have hb := h63.out
  have hw : Region.wanted o (yielded ops a.tmps) = true := by simp [Region.wanted, hgd]
  rw [if_pos hw]
  obtain ⟨ao, c, w', hr', h2, h3, h4⟩ := run_append_gen E o.type base v n xs w hown vb m news hr h1 (by unfold maxLen; omega) (Nat.le_trans (Nat.mul_le_mul hb hby) (by decide)) hbase
  unfold Oper.wp execOp
  simp only [ho, resolve, invoke, builtin, Sem.run_bind, Sem.run_pure, Result.andThen_ok, List.map_toArray, List.map_cons, List.map_nil, hs, hx, hr']
  exact h ao c w' h2 (below_grown_own hown h3 hbase) h3 h4

theorem own_empty (w : World) (base el size z : Nat) (hz : z = w.heap.size) (hb : base ≤ w.heap.size) : (w.alloc (.cells #[] el)).ownsRow base el size (.slice (some ⟨z, 0, none⟩) 0 0) 0 [] := by
  subst hz
  exact ⟨by simp, .inr ⟨w.heap.size, 0, #[], rfl, hb, heap_alloc_new w _, Nat.le_refl _, Nat.zero_le _, by simp, by simp⟩⟩


end Go.Proofs.YtlgfijjkbomejaaGreatDoor
