/- Lists of ops that are read. Numbers and types by name. -/
import Derived.Test.YtkeahapgliljoaaTxt
import Derived.Test.YtkeahapgliljoaaCel
namespace Go.Proofs.Ytkeahapgliljoaa
open Go.RowKit Go.Lib

/-- An op: del, key, value. -/
structure Opm where
  del : Bool
  key : ByteArray
  val : ByteArray
  deriving DecidableEq

def ov (o : Opm) : List Value := [.bool o.del, .string o.key, .string o.val]
def ovs (L : List Opm) : List Value := L.flatMap ov
theorem ovs_length (L : List Opm) : (ovs L).length = L.length * 3 := by
  induction L with
  | nil => rfl
  | cons o L ih => simp only [ovs, List.flatMap_cons, List.length_append, List.length_cons] at *; rw [ih]; simp [ov]; omega
theorem ovs_at {L : List Opm} {k : Nat} {o : Opm} (h : L[k]? = some o) (j : Nat) (hj : j < 3) : (ovs L)[k * 3 + j]? = (ov o)[j]? := by
  induction L generalizing k with
  | nil => cases h
  | cons p L ih =>
    have e : ovs (p :: L) = ov p ++ ovs L := by simp [ovs]
    cases k with
    | zero =>
      simp only [List.getElem?_cons_zero, Option.some.injEq] at h
      subst h
      rw [e, Nat.zero_mul, Nat.zero_add, List.getElem?_append_left (by simp [ov]; omega)]
    | succ k =>
      rw [List.getElem?_cons_succ] at h
      rw [e, List.getElem?_append_right (by simp [ov]; omega), ← ih h]
      congr 1
      simp [ov]; omega

/-- A list of ops can be read; their texts are no longer than texts can be. -/
def Opr (w : World) (v : Value) (n : Nat) (L : List Opm) : Prop := n = L.length ∧ n ≤ maxLen ∧ Cells w v 3 n (ovs L) ∧ ∀ o ∈ L, o.key.size ≤ maxLen ∧ o.val.size ≤ maxLen

theorem Opr.shape {w : World} {v : Value} {n : Nat} {L : List Opm} (h : Opr w v n L) : ∃ ao c, v = .slice ao n c := by
  obtain ⟨_, _, ⟨ao, c, rfl, _⟩, _⟩ := h
  exact ⟨ao, c, rfl⟩
theorem Opr.later {w w' : World} {v : Value} {n : Nat} {L : List Opm} (h : Opr w v n L) (hg : Grow w w') : Opr w' v n L := ⟨h.1, h.2.1, h.2.2.1.later hg, h.2.2.2⟩
theorem Opr.nil (w : World) : Opr w (.slice none 0 0) 0 [] := ⟨rfl, Nat.zero_le _, ⟨none, 0, rfl, rfl, Nat.le_refl _, fun _ => ⟨rfl, rfl⟩, fun a h => by cases h⟩, fun o h => by cases h⟩

theorem Opr.at {w : World} {ao : Option Addr} {n c : Nat} {L : List Opm} (h : Opr w (.slice ao n c) n L) {k : Nat} (hk : k < n) :
    ∃ a o, ao = some a ∧ L[k]? = some o ∧ w.cell? (a.add (k * 3)) = some (.bool o.del) ∧ w.cell? ⟨(a.add (k * 3)).block, (a.add (k * 3)).off + 1, none⟩ = some (.string o.key) ∧ w.cell? ⟨(a.add (k * 3)).block, (a.add (k * 3)).off + 2, none⟩ = some (.string o.val) ∧ o.key.size ≤ maxLen ∧ o.val.size ≤ maxLen := by
  obtain ⟨h1, h2, ⟨ao', c', e, h0, hnc, hn, hc⟩, hs⟩ := h
  simp only [Value.slice.injEq] at e
  obtain ⟨rfl, _, rfl⟩ := e
  have hx : L[k]? = some (L[k]'(by omega)) := List.getElem?_eq_getElem (by omega)
  generalize L[k]'(by omega) = o at hx
  cases ao with
  | none => have := (hn rfl).1; omega
  | some a =>
    have hm := hs o (List.mem_of_getElem? hx)
    refine ⟨a, o, rfl, hx, ?_, ?_, ?_, hm.1, hm.2⟩
    · exact hc a rfl (k * 3) _ (by have := ovs_at hx 0 (by omega); rw [Nat.add_zero] at this; rw [this]; rfl)
    · have := hc a rfl _ _ (show (ovs L)[k * 3 + 1]? = some (.string o.key) by rw [ovs_at hx 1 (by omega)]; rfl)
      rw [← Addr.add_add] at this
      exact this
    · have := hc a rfl _ _ (show (ovs L)[k * 3 + 2]? = some (.string o.val) by rw [ovs_at hx 2 (by omega)]; rfl)
      rw [← Addr.add_add] at this
      exact this

/-- Are all of them right? -/
def okOp (o : Opm) : Bool := !(o.del && !o.val.toList.isEmpty)
def okOps (L : List Opm) : Bool := L.all okOp && decide (L.length ≤ 1000)

def bulkO (L : List Opm) : Nat := (L.map fun o => 1 + o.key.size + o.val.size).sum
theorem bulkO_cons (o : Opm) (L : List Opm) : bulkO (o :: L) = 1 + o.key.size + o.val.size + bulkO L := by simp [bulkO]
theorem bulkO_append (L M : List Opm) : bulkO (L ++ M) = bulkO L + bulkO M := by simp [bulkO]
theorem bulkO_length (L : List Opm) : L.length ≤ bulkO L := by
  induction L with
  | nil => simp
  | cons o L ih => rw [bulkO_cons, List.length_cons]; omega
theorem bulkO_mem {L : List Opm} {o : Opm} (h : o ∈ L) : 1 + o.key.size + o.val.size ≤ bulkO L := by
  induction L with
  | nil => cases h
  | cons p L ih =>
    rw [bulkO_cons]
    rcases List.mem_cons.1 h with rfl | h
    · omega
    · have := ih h; omega

/-- What Great leaves. -/
def GreatO (L : List Opm) (w : World) (e : Ending) (w' : World) : Prop := ∃ b q, e = .returned (.bool b) ∧ w' = w.drewN q ∧ (b = false → bulkO L ≤ 5000)

/-- A struct is loaded from its cells. -/
theorem run_loadVar_cells (w : World) (a : Addr) (ty : TypeId) (cs : List Value) (d : TypeDesc) (hc : ∀ j v, cs[j]? = some v → w.cell? (a.add j) = some v)
    (hu : Try.prog.underlying ty = some d) (hd : (match d with | .struct _ | .array _ _ => true | _ => false) = true) (hi : (Try.prog.info? ty).map (·.size) = some cs.length) :
    (loadVar ty a).run Try.prog w = .ok (.agg cs.toArray) w := by
  have hl : (loadCells a cs.length).run Try.prog w = .ok cs.toArray w := run_loadCells_list (P := Try.prog) w a cs hc
  cases hq : Try.prog.info? ty with
  | none => simp [hq] at hi
  | some i =>
    have hs : i.size = cs.length := by simpa [hq] using hi
    have hagg : (isAgg ty).run Try.prog w = .ok true w := by
      unfold isAgg
      rw [Sem.run_bind, run_underlying hu w]
      cases d <;> simp_all
    simp [loadVar, Sem.run_bind, hagg, sizeOf, typeInfo, hq, hs, hl]

theorem load_op (w : World) (a : Addr) (o : Opm) (h0 : w.cell? a = some (.bool o.del)) (h1 : w.cell? ⟨a.block, a.off + 1, none⟩ = some (.string o.key)) (h2 : w.cell? ⟨a.block, a.off + 2, none⟩ = some (.string o.val)) :
    (loadVar 35 a).run Try.prog w = .ok (.agg #[.bool o.del, .string o.key, .string o.val]) w :=
  run_loadVar_cells w a 35 [.bool o.del, .string o.key, .string o.val] _ (fun j v hj => by
    match j with
    | 0 => simp at hj; subst hj; simpa [Addr.add] using h0
    | 1 => simp at hj; subst hj; simpa [Addr.add] using h1
    | 2 => simp at hj; subst hj; simpa [Addr.add] using h2
    | j + 3 => simp at hj) Try.underlying35 rfl (by kernel_rfl)

theorem text_inj' {s t : ByteArray} (h : s.toList = t.toList) : s = t := by
  rw [ByteArray.toList_eq, ByteArray.toList_eq] at h
  exact Go.WideShapes.bytes_inj (by simpa using h)

end Go.Proofs.Ytkeahapgliljoaa
