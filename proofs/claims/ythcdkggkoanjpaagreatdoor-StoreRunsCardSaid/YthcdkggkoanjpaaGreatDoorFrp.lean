/- Records with sums: plain facts. Numbers and types by name. -/
import Derived.Test.YthcdkggkoanjpaaGreatDoorSpl
import Derived.Test.YthcdkggkoanjpaaGreatDoorOpr
import Derived.Lib.Bytealg
import Derived.Sort.Grow
import Derived.Shelf.SlSortCmp.QuietGrown
import Derived.Sort.Walk0
import Derived.Test.YthcdkggkoanjpaaGreatDoorMov
import Derived.StillTactics
import Derived.Test.YthcdkggkoanjpaaGreatDoorChecked
import Derived.WalkKit
import Derived.WalkLawsBesides
import Derived.Lib.Hide
import Derived.BigQuiet
import Derived.Deep.QuietTactic
import Derived.ArgAppend
import Derived.OwnWalk
import Derived.Deep.RegionLaw
import Derived.Deep.AppendLies
import Derived.Lib.AppendStr
import Derived.Laws.IdiomStrings
import Derived.Lib.SlBytesConst
namespace Go.Proofs.YthcdkggkoanjpaaGreatDoor
open Go.RowKit Go.Lib
theorem well_run {K : Nat} : ∀ (ops : List Opn) (M : MD) (j : Nat), Well K M j → (∀ op ∈ ops, Adds op K ∧ Keeps op) → Well K (runOps ops M).2 (j + ops.length)
  | [], M, j, h, _ => h
  | op :: l, M, j, h, ho => by
    rw [runOps_one]
    have h1 := well_act h (ho op (by simp)).1 (ho op (by simp)).2
    split
    · have := well_run l _ (j + 1) h1 fun o hm => ho o (List.mem_cons_of_mem _ hm)
      rw [List.length_cons, show j + (l.length + 1) = j + 1 + l.length by omega]
      exact this
    · exact well_more h1 (by rw [List.length_cons]; omega)
theorem saveOps_all {K : Nat} (fs : List Ent) {x : List UInt8} (hx : x.length ≤ K) : ∀ op ∈ saveOps fs x, Adds op K ∧ Keeps op := by
  intro op hm
  unfold saveOps at hm
  rcases List.mem_append.1 hm with h | h
  · split at h
    · rw [List.mem_singleton.1 h]; exact ⟨adds_remove K tmpK, keeps_remove tmpK⟩
    · cases h
  · simp only [List.mem_cons, List.not_mem_nil, or_false] at h
    rcases h with rfl | rfl | rfl | rfl
    · exact ⟨adds_create K tmpK, keeps_create tmpK⟩
    · exact ⟨adds_append K tmpK x hx, keeps_append tmpK x⟩
    · exact ⟨adds_sync K tmpK, keeps_sync tmpK⟩
    · exact ⟨adds_rename K tmpK snapK, keeps_rename tmpK snapK⟩
theorem saveOps_length (fs : List Ent) (x : List UInt8) : (saveOps fs x).length ≤ 5 := by
  unfold saveOps
  split <;> simp
theorem well_save {K : Nat} {M : MD} {j : Nat} (h : Well K M j) {x : List UInt8} (hx : x.length ≤ K) : Well K (saveP M x).2 (j + 5) := by
  have h1 := well_run (saveOps M.fs x) M j h (saveOps_all M.fs hx)
  have h2 := saveOps_length M.fs x
  exact well_more h1 (by omega)
end Go.Proofs.YthcdkggkoanjpaaGreatDoor
namespace Go.Proofs.YthcdkggkoanjpaaGreatDoor
open Go.RowKit Go.Lib
structure Prm where
  key : ByteArray
  val : ByteArray
  deriving DecidableEq
def pv (o : Prm) : List Value := [.string o.key, .string o.val]
def pvs (L : List Prm) : List Value := L.flatMap pv
theorem pvs_length (L : List Prm) : (pvs L).length = L.length * 2 := by
  induction L with
  | nil => rfl
  | cons o L ih => simp only [pvs, List.flatMap_cons, List.length_append, List.length_cons] at *; rw [ih]; simp [pv]; omega
theorem pvs_at {L : List Prm} {k : Nat} {o : Prm} (h : L[k]? = some o) (j : Nat) (hj : j < 2) : (pvs L)[k * 2 + j]? = (pv o)[j]? := by
  induction L generalizing k with
  | nil => cases h
  | cons p L ih =>
    have e : pvs (p :: L) = pv p ++ pvs L := by simp [pvs]
    cases k with
    | zero =>
      simp only [List.getElem?_cons_zero, Option.some.injEq] at h
      subst h
      rw [e, Nat.zero_mul, Nat.zero_add, List.getElem?_append_left (by simp [pv]; omega)]
    | succ k =>
      rw [List.getElem?_cons_succ] at h
      rw [e, List.getElem?_append_right (by simp [pv]; omega), ← ih h]
      congr 1
      simp [pv]; omega
def Prr (w : World) (v : Value) (n : Nat) (L : List Prm) : Prop := n = L.length ∧ n ≤ maxLen ∧ Cells w v 2 n (pvs L) ∧ ∀ o ∈ L, o.key.size ≤ maxLen ∧ o.val.size ≤ maxLen
theorem Prr.shape {w : World} {v : Value} {n : Nat} {L : List Prm} (h : Prr w v n L) : ∃ ao c, v = .slice ao n c := by
  obtain ⟨_, _, ⟨ao, c, rfl, _⟩, _⟩ := h
  exact ⟨ao, c, rfl⟩
theorem Prr.later {w w' : World} {v : Value} {n : Nat} {L : List Prm} (h : Prr w v n L) (hg : Grow w w') : Prr w' v n L := ⟨h.1, h.2.1, h.2.2.1.later hg, h.2.2.2⟩
theorem Prr.nil (w : World) : Prr w (.slice none 0 0) 0 [] := ⟨rfl, Nat.zero_le _, ⟨none, 0, rfl, rfl, Nat.le_refl _, fun _ => ⟨rfl, rfl⟩, fun a h => by cases h⟩, fun o h => by cases h⟩
theorem Prr.at {w : World} {ao : Option Addr} {n c : Nat} {L : List Prm} (h : Prr w (.slice ao n c) n L) {k : Nat} (hk : k < n) :
    ∃ a o, ao = some a ∧ L[k]? = some o ∧ w.cell? (a.add (k * 2)) = some (.string o.key) ∧ w.cell? ⟨(a.add (k * 2)).block, (a.add (k * 2)).off + 1, none⟩ = some (.string o.val) ∧ o.key.size ≤ maxLen ∧ o.val.size ≤ maxLen := by
  obtain ⟨h1, h2, ⟨ao', c', e, h0, hnc, hn, hc⟩, hs⟩ := h
  simp only [Value.slice.injEq] at e
  obtain ⟨rfl, _, rfl⟩ := e
  have hx : L[k]? = some (L[k]'(by omega)) := List.getElem?_eq_getElem (by omega)
  generalize L[k]'(by omega) = o at hx
  cases ao with
  | none => have := (hn rfl).1; omega
  | some a =>
    have hm := hs o (List.mem_of_getElem? hx)
    refine ⟨a, o, rfl, hx, ?_, ?_, hm.1, hm.2⟩
    · exact hc a rfl (k * 2) _ (by have := pvs_at hx 0 (by omega); rw [Nat.add_zero] at this; rw [this]; rfl)
    · have := hc a rfl _ _ (show (pvs L)[k * 2 + 1]? = some (.string o.val) by rw [pvs_at hx 1 (by omega)]; rfl)
      rw [← Addr.add_add] at this
      exact this
def kOf (o : Prm) : List UInt8 := o.key.toList
def Rise (L : List Prm) : Prop := L.Pairwise fun a b => kOf a < kOf b
instance riseDec (L : List Prm) : Decidable (Rise L) := by unfold Rise; infer_instance
theorem rise_steps {L : List Prm} (h : ∀ j a b, L[j]? = some a → L[j + 1]? = some b → kOf a < kOf b) : Rise L := by
  unfold Rise
  induction L with
  | nil => exact List.Pairwise.nil
  | cons x L ih =>
    have hL := ih fun j a b h1 h2 => h (j + 1) a b (by simpa using h1) (by simpa using h2)
    refine List.Pairwise.cons (fun y hy => ?_) hL
    cases L with
    | nil => cases hy
    | cons z L =>
      have h0 := h 0 x z rfl rfl
      rcases List.mem_cons.1 hy with rfl | hy
      · exact h0
      · exact List.lt_trans h0 ((List.pairwise_cons.1 hL).1 y hy)
theorem rise_next {L : List Prm} (h : Rise L) {j : Nat} {a b : Prm} (ha : L[j]? = some a) (hb : L[j + 1]? = some b) : kOf a < kOf b := by
  obtain ⟨h1, e1⟩ := List.getElem?_eq_some_iff.1 ha
  obtain ⟨h2, e2⟩ := List.getElem?_eq_some_iff.1 hb
  have := List.pairwise_iff_getElem.1 h j (j + 1) h1 h2 (by omega)
  rw [e1, e2] at this
  exact this
def SameP (ps qs : List Prm) (w : World) (e : Ending) (w' : World) : Prop := ∃ k, e = .returned (.bool (decide (ps = qs))) ∧ w' = w.drewN k
theorem same_pairs (v1 v2 : Value) (n m : Nat) (ps qs : List Prm) (w : World) (h1 : Prr w v1 n ps) (h2 : Prr w v2 m qs) :
    Calls Tryz.prog 25 #[v1, v2] w (SameP ps qs w) := by
  obtain ⟨a1, c1, rfl⟩ := h1.shape
  obtain ⟨a2, c2, rfl⟩ := h2.shape
  have H1 := Lib.hid h1
  have H2 := Lib.hid h2
  have hm := h1.2.1
  unfold maxLen at hm
  clear h1 h2
  by_cases hne : n = m
  · subst hne
    go_enter Tryz.func25, Tryz.ntmps25
    go_wp2_with fail
    go_loopw [5] (fun i wr => ∃ k q : Nat, k ≤ n ∧ i = .int .i64 k ∧ wr = w.drewN q ∧ Hid (ps.take k = qs.take k))
      (fun i _ => n - (intOf i).toNat)
    case atStart => exact ⟨0, 0, Nat.zero_le _, rfl, rfl, Lib.hid rfl⟩
    case round =>
      obtain ⟨k, q, hk, rfl, hw, hs⟩ := hrel
      by_cases h1 : k < n
      · have h3 : (k : Int) < (n : Int) := by omega
        have R1 : Prr wr (.slice a1 n c1) n ps := by rw [hw]; exact H1.out
        have R2 : Prr wr (.slice a2 n c2) n qs := by rw [hw]; exact H2.out
        obtain ⟨x1, o1, rfl, e1, ca0, ca1, _, _⟩ := R1.at h1
        obtain ⟨x2, o2, rfl, e2, cb0, cb1, _, _⟩ := R2.at h1
        have HW := Lib.hid (And.intro hw (And.intro e1 e2))
        clear hw e1 e2 R1 R2
        obtain ⟨k1, v1⟩ := o1
        obtain ⟨k2, v2⟩ := o2
        simp only at ca0 ca1 cb0 cb1
        by_cases heq : k1.toList = k2.toList ∧ v1.toList = v2.toList
        · obtain ⟨hk2, hv2⟩ := heq
          obtain rfl := text_inj' hk2
          obtain rfl := text_inj' hv2
          have HN : Hid (ps.take (k + 1) = qs.take (k + 1)) := Lib.hid (by rw [take_next HW.out.2.1, take_next HW.out.2.2, hs.out])
          clear hk2 hv2
          go_wp2_with fail
          go_quiet (fail)
          go_wp2
          exact ⟨⟨k + 1, q + nq, by omega, by simp, by rw [HW.out.1, World.drewN_drewN], HN⟩, by simp [intOf]; omega⟩
        · have HN : Hid (ps ≠ qs) := Lib.hid (by
            rintro rfl
            have e := HW.out.2.1.symm.trans HW.out.2.2
            simp only [Option.some.injEq, Prm.mk.injEq] at e
            exact heq ⟨by rw [e.1], by rw [e.2]⟩)
          have hcase : (¬ k1.toList = k2.toList) ∨ (k1.toList = k2.toList ∧ ¬ v1.toList = v2.toList) := by
            by_cases x2 : k1.toList = k2.toList
            · exact .inr ⟨x2, fun x3 => heq ⟨x2, x3⟩⟩
            · exact .inl x2
          clear heq
          rcases hcase with x2 | ⟨x2, x3⟩
          · go_wp2_with fail
            go_quiet (fail)
            go_wp2
            go_ret
            exact ⟨q + nq, by rw [decide_eq_false HN.out]; rfl, by rw [HW.out.1, World.drewN_drewN]⟩
          · go_wp2_with fail
            go_quiet (fail)
            go_wp2
            go_ret
            exact ⟨q + nq, by rw [decide_eq_false HN.out]; rfl, by rw [HW.out.1, World.drewN_drewN]⟩
      · have h3 : ¬ (k : Int) < (n : Int) := by omega
        obtain rfl : k = n := by omega
        have HW := Lib.hid hw
        clear hw
        go_wp2_with fail
        go_ret
        have h5 := hs.out
        rw [List.take_of_length_le (by have := H1.out.1; omega), List.take_of_length_le (by have := H2.out.1; omega)] at h5
        exact ⟨q, by rw [decide_eq_true h5]; rfl, HW.out⟩
  · have h3 : ¬ (n : Int) = (m : Int) := by omega
    have h4 : ((n : Int) != (m : Int)) = true := by simpa using h3
    go_enter Tryz.func25, Tryz.ntmps25
    go_wp2_with fail
    go_ret
    refine ⟨0, ?_, rfl⟩
    rw [decide_eq_false]
    · rfl
    intro h; exact absurd (by have := H1.out.1; have := H2.out.1; rw [h] at *; omega) hne
end Go.Proofs.YthcdkggkoanjpaaGreatDoor
namespace Go.Proofs.YthcdkggkoanjpaaGreatDoor
open Go.RowKit Go.Lib Go.Sort
set_option maxRecDepth 100000 in
set_option maxHeartbeats 4000000 in
theorem tright_draws (v : Value) (n : Nat) (L : List Prm) (w : World) (hr : Prr w v n L) :
    Calls Tryz.prog 106 #[v] w fun e w' => ∃ q, e = .returned (.bool (decide (Rise L))) ∧ w' = w.drewN q := by
  obtain ⟨ao, c, rfl⟩ := hr.shape
  have HR := Lib.hid hr
  have hm := hr.2.1
  unfold maxLen at hm
  clear hr
  go_enter Tryz.func106, Tryz.ntmps106
  go_wp2_with fail
  go_loopw [3] (fun i wr => ∃ m q : Nat, i = .int .i64 m ∧ 1 ≤ m ∧ (m = 1 ∨ m ≤ n) ∧ Hid (∀ j a b, j + 1 < m → L[j]? = some a → L[j + 1]? = some b → kOf a < kOf b) ∧ wr = w.drewN q)
    (fun i _ => n + 1 - (RowKit.intOf i).toNat)
  case atStart => exact ⟨1, 0, rfl, Nat.le_refl _, .inl rfl, Lib.hid (fun j a b h => by omega), rfl⟩
  case round =>
    obtain ⟨m, q, rfl, hm1, hk, hs, hw⟩ := hrel
    by_cases hlt : m < n
    · have h3 : (m : Int) < (n : Int) := by omega
      obtain ⟨k, hkm⟩ : ∃ k, m = k + 1 := ⟨m - 1, by omega⟩
      have h4 : (k : Int) < (n : Int) := by omega
      have h5 : k < n := by omega
      have u1 : IntKind.i64.wrap ((m : Int) - 1) = (k : Int) := by rw [IntKind.wrap_i64]; omega
      have HR' : Prr wr (.slice ao n c) n L := by rw [hw]; exact HR.out
      obtain ⟨a, o, rfl, ho, c0, _, _, _⟩ := HR'.at hlt
      obtain ⟨a', o', e, ho', d0, _, _, _⟩ := HR'.at (k := k) (by omega)
      cases e
      rw [hkm] at ho
      have HO := Lib.hid (And.intro ho (And.intro ho' (And.intro hw hkm)))
      clear ho ho' hw HR' hkm
      by_cases hb : Op.bytesLess o'.key.toList o.key.toList = true
      case neg =>
        have HN : Hid (¬ Rise L) := Lib.hid (fun hR => by
          have h1 := rise_next hR HO.out.2.1 HO.out.1
          unfold kOf at h1
          exact hb (by rw [bytesLess_eq]; simpa using h1))
        rw [Bool.not_eq_true] at hb
        go_wp2_with fail
        go_quiet (fail)
        go_wp2
        go_ret
        exact ⟨q + nq, by rw [decide_eq_false HN.out]; rfl, by rw [HO.out.2.2.1, World.drewN_drewN]⟩
      case pos =>
        have HN : Hid (kOf o' < kOf o) := Lib.hid (by
          unfold kOf
          rw [bytesLess_eq] at hb
          simpa using hb)
        go_wp2_with fail
        go_quiet (fail)
        go_wp2
        refine ⟨⟨m + 1, q + nq, by go_num, by omega, .inr (by omega), Lib.hid (fun j a b hj h1 h2 => ?_), by rw [HO.out.2.2.1, World.drewN_drewN]⟩, by simp [RowKit.intOf]; omega⟩
        have hkm := HO.out.2.2.2
        by_cases hjk : j + 1 < m
        · exact hs.out j a b hjk h1 h2
        · obtain rfl : j = k := by omega
          rw [HO.out.2.1] at h1
          rw [HO.out.1] at h2
          cases h1; cases h2
          exact HN.out
    · have h3 : ¬ (m : Int) < (n : Int) := by omega
      have HW := Lib.hid hw
      have HN : Hid (Rise L) := Lib.hid (rise_steps fun j a b h1 h2 => hs.out j a b (by
        have := (List.getElem?_eq_some_iff.1 h2).1
        have := HR.out.1
        omega) h1 h2)
      clear hw
      go_wp2_with fail
      go_ret
      exact ⟨by rw [decide_eq_true HN.out]; rfl, q, HW.out⟩
theorem below_draws (w : World) (q : Nat) : Below w.heap.size w (w.drewN q) := ⟨rfl, rfl, rfl, Nat.le_refl _, fun _ _ => rfl⟩
theorem tright_any (v : Value) (n : Nat) (L : List Prm) (w : World) (hr : Prr w v n L) :
    Calls Tryz.prog 106 #[v] w fun e w' => e = .returned (.bool (decide (Rise L))) ∧ Below w.heap.size w w' :=
  (tright_draws v n L w hr).mono fun e w' ⟨q, he, hw⟩ => ⟨he, by rw [hw]; exact below_draws w q⟩
end Go.Proofs.YthcdkggkoanjpaaGreatDoor
namespace Go.Proofs.YthcdkggkoanjpaaGreatDoor
open Go.RowKit Go.Lib
theorem Reads.drop {w : World} {a : Addr} {n c : Nat} {l : List UInt8} (h : Reads w (.slice (some a) n c) (bv l)) (k : Nat) (hk : k ≤ n) (b : Addr) (hb : b = a.add k ∨ l.length = k) : Reads w (.slice (some b) (n - k) (c - k)) (bv (l.drop k)) := by
  obtain ⟨ao', c', e, h0, _, h2⟩ := h
  simp only [Value.slice.injEq, bv_length] at e h0
  obtain ⟨e1, rfl, rfl⟩ := e
  refine ⟨some b, c - k, by rw [bv_length, List.length_drop], by rw [bv_length, List.length_drop]; omega, (fun e => by cases e), fun a' ha j u hj => ?_⟩
  cases ha
  have hj2 := (List.getElem?_eq_some_iff.1 hj).1
  rw [bv_length, List.length_drop] at hj2
  rcases hb with rfl | hb
  · rw [Addr.add_add]
    refine h2 a e1.symm (k + j) u ?_
    rw [← hj]
    simp [bv]
  · omega
theorem Reads.prefix {w : World} {ao : Option Addr} {n c : Nat} {l : List UInt8} (h : Reads w (.slice ao n c) (bv l)) (k : Nat) (hk : k ≤ n) : Reads w (.slice ao k c) (bv (l.take k)) := by
  obtain ⟨ao', c', e, h0, h1, h2⟩ := h
  simp only [Value.slice.injEq, bv_length] at e h0
  obtain ⟨rfl, rfl, rfl⟩ := e
  refine ⟨ao, c, by rw [bv_length, List.length_take]; congr 1; omega, by rw [bv_length, List.length_take]; omega, fun e => ?_, fun a ha j u hj => ?_⟩
  · have h3 := h1 e
    have : l = [] := by simpa [bv] using h3.1
    subst this
    exact ⟨by simp [bv], h3.2⟩
  · refine h2 a ha j u ?_
    rw [← hj]
    have hj2 := (List.getElem?_eq_some_iff.1 hj).1
    rw [bv_length, List.length_take] at hj2
    simp [bv, List.getElem?_take, (by omega : j < k)]
theorem Reads.take {w : World} {a : Addr} {n c : Nat} {l : List UInt8} (h : Reads w (.slice (some a) n c) (bv l)) (k : Nat) (hk : k ≤ n) : Reads w (.slice (some a) k c) (bv (l.take k)) := h.prefix k hk
theorem Reads.byte {w : World} {ao : Option Addr} {n c : Nat} {l : List UInt8} (h : Reads w (.slice ao n c) (bv l)) {k : Nat} (hk : k < n) : ∃ a x, ao = some a ∧ l[k]? = some x ∧ w.cell? (a.add k) = some (.int .u8 ((x : UInt8).toNat : Int)) := by
  obtain ⟨ao', c', e, h0, h1, h2⟩ := h
  simp only [Value.slice.injEq, bv_length] at e h0
  obtain ⟨rfl, rfl, rfl⟩ := e
  have hx : l[k]? = some l[k] := List.getElem?_eq_getElem hk
  cases ao with
  | none => have := (h1 rfl).1; have : l = [] := by simpa [bv] using this
            subst this; simp at hk
  | some a => exact ⟨a, l[k], rfl, hx, h2 a rfl k _ (by simp [bv, hx])⟩
theorem owns_grown {w w' : World} {base e size : Nat} {v : Value} {n : Nat} {xs : List Value} {row : Option Nat} (h : w.ownsRow base e size v n xs) (hg : w.grownBy w' row) (hne : ∀ g, v.ownBlock = some g → row ≠ some g) : w'.ownsRow base e size v n xs := by
  refine ⟨h.1, h.2.imp id ?_⟩
  rintro ⟨g, cap, cur, h1, h2, h3, h4⟩
  refine ⟨g, cap, cur, h1, h2, ?_, h4⟩
  have hv : v.ownBlock = some g := by rw [h1]; rfl
  rw [hg.block g (h.lt g hv).2 (fun e => hne g hv e.symm)]
  exact h3
theorem owns_apart {w : World} {base base' e e' size size' : Nat} {v v' : Value} {n n' : Nat} {xs xs' : List Value} (h : w.ownsRow base e size v n xs) (k : w.ownsRow base' e' size' v' n' xs') (hee : e ≠ e') : ∀ g, v.ownBlock = some g → v'.ownBlock ≠ some g := by
  intro g hv hv'
  rcases h.2 with ⟨rfl, _⟩ | ⟨g1, cap, cur, h1, h2, h3, h4⟩
  · cases hv
  rcases k.2 with ⟨rfl, _⟩ | ⟨g2, cap', cur', k1, k2, k3, k4⟩
  · cases hv'
  have e1 : g1 = g := by rw [h1] at hv; exact Option.some.inj hv
  have e2 : g2 = g := by rw [k1] at hv'; exact Option.some.inj hv'
  subst e1
  subst e2
  rw [h3] at k3
  simp only [Option.some.injEq, Obj.cells.injEq] at k3
  exact hee k3.2.1
theorem owns_below {w w' : World} {base B e size : Nat} {v : Value} {n : Nat} {xs : List Value} (h : w.ownsRow base e size v n xs) (hb : Below B w w') (hB : w.heap.size ≤ B) : w'.ownsRow base e size v n xs := by
  refine ⟨h.1, h.2.imp id ?_⟩
  rintro ⟨g, cap, cur, h1, h2, h3, h4⟩
  refine ⟨g, cap, cur, h1, h2, ?_, h4⟩
  rw [hb.block g (by have := (h.lt g (by rw [h1]; rfl)).2; omega)]
  exact h3
end Go.Proofs.YthcdkggkoanjpaaGreatDoor
namespace Go.Proofs.YthcdkggkoanjpaaGreatDoor
open Go.RowKit Go.Lib
def poly : BitVec 32 := 0xedb88320#32
def sh (c : BitVec 32) : BitVec 32 := if c.getLsbD 0 = true then (c >>> 1) ^^^ poly else c >>> 1
def shs : Nat → BitVec 32 → BitVec 32
  | 0, c => c
  | n + 1, c => shs n (sh c)
def feed (c : BitVec 32) (x : UInt8) : BitVec 32 := shs 8 (c ^^^ BitVec.ofNat 32 x.toNat)
def crc (c : BitVec 32) (l : List UInt8) : BitVec 32 := l.foldl feed c
theorem crc_append (c : BitVec 32) (l m : List UInt8) : crc c (l ++ m) = crc (crc c l) m := List.foldl_append
theorem bits_xor_nat (k : IntKind) (j : Nat) (hj : j ≤ k.bits) (hk : ∀ n : Int, 0 ≤ n → n < 2 ^ j → k.wrap n = n) (a b : Nat) (ha : a < 2 ^ j) (hb : b < 2 ^ j) :
    bits .xor k a b = ((a ^^^ b : Nat) : Int) := by
  have hp : 2 ^ j ≤ 2 ^ k.bits := Nat.pow_le_pow_right (by decide) hj
  have ha' : a % 2 ^ k.bits = a := Nat.mod_eq_of_lt (Nat.lt_of_lt_of_le ha hp)
  have hb' : b % 2 ^ k.bits = b := Nat.mod_eq_of_lt (Nat.lt_of_lt_of_le hb hp)
  have cast : ∀ n : Nat, n < 2 ^ j → ((n : Nat) : Int) < 2 ^ j := fun n h => by exact_mod_cast h
  simp only [bits, BitVec.ofInt_natCast, BitVec.toNat_xor, BitVec.toNat_ofNat, ha', hb']
  exact hk _ (Int.natCast_nonneg _) (cast _ (Nat.xor_lt_two_pow ha hb))
theorem wrap_u32_small (n : Int) (h0 : 0 ≤ n) (h1 : n < 2 ^ 32) : IntKind.u32.wrap n = n := by
  have : (2 : Int) ^ 32 = 4294967296 := by decide
  simp [IntKind.wrap, IntKind.bits, IntKind.signed]
  omega
theorem bits_xor_u32 (c d : BitVec 32) : bits .xor .u32 (c.toNat : Int) (d.toNat : Int) = ((c ^^^ d).toNat : Int) := by
  rw [bits_xor_nat .u32 32 (by decide) wrap_u32_small _ _ c.isLt d.isLt, BitVec.toNat_xor]
theorem bits_and_u32 (c d : BitVec 32) : bits .and .u32 (c.toNat : Int) (d.toNat : Int) = ((c &&& d).toNat : Int) := by
  rw [(bits_nat .u32 32 (by decide) wrap_u32_small _ _ c.isLt d.isLt).1, BitVec.toNat_and]
theorem shs_succ : ∀ (n : Nat) (c : BitVec 32), shs (n + 1) c = sh (shs n c)
  | 0, _ => rfl
  | n + 1, c => by show shs (n + 1) (sh c) = sh (shs n (sh c)); exact shs_succ n (sh c)
def ones : BitVec 32 := 0xffffffff#32
def begun (s : Int) : BitVec 32 := BitVec.ofInt 32 s ^^^ ones
def sumOf (s : Int) (l : List UInt8) : Int := ((crc (begun s) l ^^^ ones).toNat : Int)
theorem ofInt_mod (s : Int) : ((BitVec.ofInt 32 s).toNat : Int) = s % 4294967296 := by
  rw [BitVec.toNat_ofInt]
  have : ((2 ^ 32 : Nat) : Int) = 4294967296 := by decide
  rw [this]
  exact Int.toNat_of_nonneg (Int.emod_nonneg _ (by decide))
theorem low_one {c : BitVec 32} (h : c.getLsbD 0 = true) : bits .and .u32 (c.toNat : Int) 1 = 1 := by
  have := bits_and_u32 c 1
  have e : c &&& 1 = 1 := by
    apply BitVec.eq_of_toNat_eq
    rw [BitVec.getLsbD, Nat.testBit_zero] at h
    simp only [decide_eq_true_eq] at h
    simp [Nat.and_one_is_mod, h]
  rw [e] at this
  exact this
theorem low_none {c : BitVec 32} (h : c.getLsbD 0 = false) : bits .and .u32 (c.toNat : Int) 1 = 0 := by
  have := bits_and_u32 c 1
  have e : c &&& 1 = 0 := by
    apply BitVec.eq_of_toNat_eq
    rw [BitVec.getLsbD, Nat.testBit_zero] at h
    simp only [decide_eq_false_iff_not] at h
    simp [Nat.and_one_is_mod]
    omega
  rw [e] at this
  exact this
theorem half_nat (c : BitVec 32) : (c.toNat : Int) / (2 : Int) = ((c >>> 1).toNat : Int) := by
  simp [Nat.shiftRight_eq_div_pow]
theorem step_one {c : BitVec 32} (h : c.getLsbD 0 = true) : bits .xor .u32 ((c.toNat : Int) / (2 : Int)) 3988292384 = ((sh c).toNat : Int) := by
  rw [half_nat]
  have := bits_xor_u32 (c >>> 1) poly
  unfold sh
  rw [if_pos h]
  exact this
theorem step_none {c : BitVec 32} (h : c.getLsbD 0 = false) : (c.toNat : Int) / (2 : Int) = ((sh c).toNat : Int) := by
  rw [half_nat]
  unfold sh
  rw [if_neg (by rw [h]; simp)]
theorem byte_xor (c : BitVec 32) (x : UInt8) : bits .xor .u32 (c.toNat : Int) (x.toNat : Int) = ((c ^^^ BitVec.ofNat 32 x.toNat).toNat : Int) := by
  have := bits_xor_u32 c (BitVec.ofNat 32 x.toNat)
  have e : (BitVec.ofNat 32 x.toNat).toNat = x.toNat := by
    have := x.toNat_lt
    simp
  rw [e] at this
  exact this
theorem begun_xor (s : Int) : bits .xor .u32 (s % 4294967296) 4294967295 = ((begun s).toNat : Int) := by
  rw [← ofInt_mod]
  exact bits_xor_u32 (BitVec.ofInt 32 s) ones
theorem ended_xor (c : BitVec 32) : bits .xor .u32 (c.toNat : Int) 4294967295 = ((c ^^^ ones).toNat : Int) := bits_xor_u32 c ones
theorem begun_not (s : Int) : bits .xor .u32 IntKind.u32.max (s % 4294967296) = ((begun s).toNat : Int) := by
  rw [← ofInt_mod]
  have := bits_xor_u32 ones (BitVec.ofInt 32 s)
  rw [BitVec.xor_comm] at this
  exact this
theorem ended_not (c : BitVec 32) : bits .xor .u32 IntKind.u32.max (c.toNat : Int) = ((c ^^^ ones).toNat : Int) := by
  have := bits_xor_u32 ones c
  rw [BitVec.xor_comm] at this
  exact this
theorem sumOf_bound (s : Int) (l : List UInt8) : 0 ≤ sumOf s l ∧ sumOf s l < 4294967296 := by
  have := (crc (begun s) l ^^^ ones).isLt
  unfold sumOf
  omega
end Go.Proofs.YthcdkggkoanjpaaGreatDoor
namespace Go.Proofs.YthcdkggkoanjpaaGreatDoor
open Go.RowKit Go.Lib
def frm (p : List UInt8) : List UInt8 := be4 p.length ++ be4 (sumOf 0 p) ++ p
def frms (l : List (List UInt8)) : List UInt8 := l.flatMap frm
theorem frm_length (p : List UInt8) : (frm p).length = 8 + p.length := by simp [frm, be4_length]; omega
def one? (b : List UInt8) : Option (List UInt8 × List UInt8) :=
  match num? b with
  | none => none
  | some (n, r) => match num? r with
    | none => none
    | some (s, q) => if n ≤ 1048576 ∧ n ≤ q.length ∧ sumOf 0 (q.take n) = s then some (q.take n, q.drop n) else none
inductive Scans : List UInt8 → List (List UInt8) → Nat → Prop
  | stop {b : List UInt8} : one? b = none → Scans b [] 0
  | more {b p r : List UInt8} {l : List (List UInt8)} {n : Nat} : one? b = some (p, r) → Scans r l n → Scans b (p :: l) (8 + p.length + n)
theorem scans_det {b : List UInt8} {l : List (List UInt8)} {n : Nat} (h : Scans b l n) : ∀ {l' : List (List UInt8)} {n' : Nat}, Scans b l' n' → l = l' ∧ n = n' := by
  induction h with
  | stop h0 =>
    intro l' n' h'
    cases h' with
    | stop _ => exact ⟨rfl, rfl⟩
    | more h1 _ => rw [h0] at h1; cases h1
  | more h0 _ ih =>
    intro l' n' h'
    cases h' with
    | stop h1 => rw [h0] at h1; cases h1
    | more h1 h2 =>
      rw [h0] at h1
      cases h1
      obtain ⟨rfl, rfl⟩ := ih h2
      exact ⟨rfl, rfl⟩
theorem one_frm (p s : List UInt8) (hp : p.length ≤ 1048576) : one? (frm p ++ s) = some (p, s) := by
  have hb := sumOf_bound 0 p
  obtain ⟨k, hk⟩ : ∃ k : Nat, sumOf 0 p = k := ⟨(sumOf 0 p).toNat, (Int.toNat_of_nonneg hb.1).symm⟩
  unfold one? frm
  rw [hk, List.append_assoc, List.append_assoc, num_be4 p.length (by omega)]
  simp only
  rw [num_be4 k (by omega)]
  simp only
  rw [List.take_left' rfl, List.drop_left' rfl, if_pos ⟨hp, by simp, hk⟩]
theorem scans_frms {s : List UInt8} {m : List (List UInt8)} {n : Nat} (h : Scans s m n) : ∀ l : List (List UInt8), (∀ p ∈ l, p.length ≤ 1048576) → Scans (frms l ++ s) (l ++ m) ((frms l).length + n)
  | [], _ => by simpa [frms] using h
  | p :: l, hl => by
    have ih := scans_frms h l fun q hq => hl q (by simp [hq])
    have e : frms (p :: l) = frm p ++ frms l := by simp [frms]
    rw [e, List.append_assoc, List.length_append, frm_length, show 8 + p.length + (frms l).length + n = 8 + p.length + ((frms l).length + n) by omega]
    exact .more (one_frm p _ (hl p (by simp))) ih
theorem scans_nil : Scans [] [] 0 := .stop rfl
theorem one_cut (p : List UInt8) (k : Nat) (hp : p.length ≤ 1048576) (hk : k < (frm p).length) : one? ((frm p).take k) = none := by
  rw [frm_length] at hk
  unfold one?
  by_cases h4 : k < 4
  · have : num? ((frm p).take k) = none := by
      unfold num?
      rw [if_neg (by rw [List.length_take, frm_length]; omega)]
    rw [this]
  · have e : (frm p).take k = be4 p.length ++ (be4 (sumOf 0 p) ++ p).take (k - 4) := by
      unfold frm
      rw [List.append_assoc, List.take_append, List.take_of_length_le (by rw [be4_length]; omega), be4_length]
    rw [e, num_be4 p.length (by omega)]
    simp only
    by_cases h8 : k < 8
    · have : num? ((be4 (sumOf 0 p) ++ p).take (k - 4)) = none := by
        unfold num?
        rw [if_neg (by rw [List.length_take]; omega)]
      rw [this]
    · have e2 : (be4 (sumOf 0 p) ++ p).take (k - 4) = be4 (sumOf 0 p) ++ p.take (k - 4 - 4) := by
        rw [List.take_append, List.take_of_length_le (by rw [be4_length]; omega), be4_length]
      have hb := sumOf_bound 0 p
      obtain ⟨s, hs⟩ : ∃ s : Nat, sumOf 0 p = s := ⟨(sumOf 0 p).toNat, (Int.toNat_of_nonneg hb.1).symm⟩
      rw [e2, hs, num_be4 s (by omega)]
      simp only
      rw [if_neg]
      rintro ⟨_, h, _⟩
      rw [List.length_take] at h
      omega
theorem scans_cut (l : List (List UInt8)) (p q : List UInt8) (hl : ∀ x ∈ l, x.length ≤ 1048576) (hq : q = [] ∨ ∃ k, k < (frm p).length ∧ p.length ≤ 1048576 ∧ q = (frm p).take k) : Scans (frms l ++ q) l (frms l).length := by
  have h0 : Scans q [] 0 := by
    rcases hq with rfl | ⟨k, h1, h2, rfl⟩
    · exact scans_nil
    · exact .stop (one_cut p k h2 h1)
  have := scans_frms h0 l hl
  simpa using this
end Go.Proofs.YthcdkggkoanjpaaGreatDoor
