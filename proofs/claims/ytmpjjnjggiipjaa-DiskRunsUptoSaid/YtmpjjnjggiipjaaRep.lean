/- What the disk's map of files is: the map in memory against a list of files. Numbers and types by name. -/
import Derived.Test.YtmpjjnjggiipjaaBeg2
import Derived.Maps.OwnSet
import Derived.Sort.KeysCollected
namespace Go.Proofs.Ytmpjjnjggiipjaa
open Go.RowKit Go.Maps Go.Sort Go.WideMaps

/-- A file as it lies in memory: its name, its block, the block of its bytes, its bytes, how many are synced. -/
structure FM where
  name : List UInt8
  blk : Nat
  row : Option Nat
  bytes : List UInt8
  sy : Nat

def named (k : List UInt8) (f : FM) : Bool := f.name == k

def Rp (v : Value) : Option (DataW Unit × List MemPlace) :=
  match v with
  | .pointer (some ⟨f, 0, none⟩) => some (.lit (.int .i64 f), [])
  | .pointer none => some (.nil, [])
  | _ => none

def look (files : List FM) (k : List UInt8) : DataW Unit :=
  match files.find? (named k) with
  | some f => .lit (.int .i64 f.blk)
  | none => .nil

def ptrOf (files : List FM) (k : List UInt8) : Option Addr := (files.find? (named k)).map fun f => ⟨f.blk, 0, none⟩

/-- The map m holds just the files. -/
def MapAt (w : World) (m : Nat) (files : List FM) : Prop :=
  ∃ D : DataW Unit, w.ownsMap Try.prog 9 Rp m files.length D ∧ Maps.size D = files.length ∧ (∀ k, D.atKey (.string k) .nil = look files k) ∧ ∀ k, Maps.has D (.string k) = files.any (named k)

theorem law : Keyed Try.prog 9 := string_keyed Try.underlying9
theorem zero_ptr (w : World) : (zeroValue 63).run Try.prog w = .ok (.pointer none) w := by kernel_rfl

theorem Rp_ptr {v : Value} {f : Nat} {ps : List MemPlace} (h : Rp v = some (.lit (.int .i64 f), ps)) : v = .pointer (some ⟨f, 0, none⟩) := by
  unfold Rp at h
  split at h
  · simp only [Option.some.injEq, Prod.mk.injEq, DataW.lit.injEq, Lit.int.injEq, true_and] at h
    rename_i g
    obtain rfl : g = f := by omega
    rfl
  · simp at h
  · simp at h

theorem Rp_nil {v : Value} {ps : List MemPlace} (h : Rp v = some (.nil, ps)) : v = .pointer none := by
  unfold Rp at h
  split at h
  · simp at h
  · rfl
  · simp at h

theorem MapAt.keep {w w' : World} {m : Nat} {files : List FM} (h : MapAt w m files) {F : List Nat} (t : Turn F w w') (hm : m ∉ F) : MapAt w' m files := by
  obtain ⟨D, ⟨es, clock, hb, F', hs, hD⟩, h2⟩ := h
  exact ⟨D, ⟨es, clock, t.heap hb hm, F', hs, hD⟩, h2⟩

theorem MapAt.lt {w : World} {m : Nat} {files : List FM} (h : MapAt w m files) : m < w.heap.size := by
  obtain ⟨D, h1, _⟩ := h; exact h1.lt

/-- The look-up. -/
theorem MapAt.look {w : World} {m : Nat} {files : List FM} (h : MapAt w m files) (key : ByteArray) (hk : key.size ≤ maxLen) :
    (Instr.lookup 49 (.map (some m)) (.string key) false).run Try.prog w = .ok (.pointer (ptrOf files key.data.toList)) w := by
  obtain ⟨D, hown, _, hat, _⟩ := h
  have hkey := keyOf_string_mk Try.underlying9 hk
  obtain ⟨v, ps, hrun, hv⟩ := hown.lookup law Try.underlying49 (zero_ptr w) (zd := .nil) (zp := []) rfl hkey
  rw [hat] at hv
  rw [hrun]
  unfold Go.Proofs.Ytmpjjnjggiipjaa.look at hv
  unfold ptrOf
  cases hf : files.find? (named key.data.toList) with
  | none => rw [hf] at hv; rw [Rp_nil hv]; rfl
  | some f => rw [hf] at hv; rw [Rp_ptr hv]; rfl

theorem look_none (w : World) (key : ByteArray) (hk : key.size ≤ maxLen) :
    (Instr.lookup 49 (.map none) (.string key) false).run Try.prog w = .ok (.pointer none) w :=
  look_nil false law Try.underlying49 (zero_ptr w) (keyOf_string_mk Try.underlying9 hk)

theorem MapAt.perm {w : World} {m : Nat} {files : List FM} (_h : MapAt w m files) (hn : (files.map (·.name)).Nodup) {D : DataW Unit} {n : Nat} (hown : w.ownsMap Try.prog 9 Rp m n D) (hh : ∀ k, Maps.has D (.string k) = files.any (named k)) :
    (files.map (·.name)).Perm (strKeys D) := by
  refine Collected.perm (left := fun _ => false) ⟨hn, fun x => ?_⟩ hown law Try.underlying9 (fun _ => rfl)
  rw [hh x]
  simp [named]

/-- A map that is made. -/
theorem MapAt.made (w : World) : MapAt (w.alloc (.map #[] 0)) w.heap.size [] :=
  ⟨.map [], World.ownsMap_made w _ _ _, rfl, fun _ => rfl, fun _ => rfl⟩

theorem look_append (files : List FM) (f : FM) (hf : files.any (named f.name) = false) (k : List UInt8) : Go.Proofs.Ytmpjjnjggiipjaa.look (files ++ [f]) k = if k = f.name then .lit (.int .i64 f.blk) else Go.Proofs.Ytmpjjnjggiipjaa.look files k := by
  unfold Go.Proofs.Ytmpjjnjggiipjaa.look
  rw [List.find?_append]
  by_cases hk : k = f.name
  · subst hk
    have : files.find? (named f.name) = none := by
      rw [List.find?_eq_none]
      intro x hx he
      have : files.any (named f.name) = true := List.any_eq_true.2 ⟨x, hx, he⟩
      rw [hf] at this; cases this
    simp [this, named]
  · have h1 : named k f = false := by simp [named]; exact fun e => hk e.symm
    simp [hk, h1]

/-- A new file under a new name. -/
theorem MapAt.put {w' : World} {m : Nat} {files : List FM} {f : FM} {D : DataW Unit} (h1 : Maps.size D = files.length) (h2 : ∀ k, D.atKey (.string k) .nil = Go.Proofs.Ytmpjjnjggiipjaa.look files k) (h3 : ∀ k, Maps.has D (.string k) = files.any (named k))
    (hi : IsMap D) (hT : Tidy D) (hf : files.any (named f.name) = false)
    (hown : w'.ownsMap Try.prog 9 Rp m (files.length + 1) (D.put (.string f.name) (.lit (.int .i64 f.blk)))) : MapAt w' m (files ++ [f]) := by
  refine ⟨_, by simpa using hown, ?_, fun k => ?_, fun k => ?_⟩
  · rw [size_put hT, h3, hf]; simp [h1]
  · rw [look_append files f hf k]
    by_cases hk : k = f.name
    · subst hk
      rw [atKey_put_same hi (by simp [WideAt.IsKeyLit]), if_pos rfl]
    · rw [atKey_put_other (by simpa using hk), if_neg hk, h2]
  · by_cases hk : k = f.name
    · subst hk
      rw [has_put_same hi (by simp [WideAt.IsKeyLit])]
      simp [named]
    · rw [has_put_other (by simpa using hk), h3]
      have : named k f = false := by simp [named]; exact fun e => hk e.symm
      simp [this]

end Go.Proofs.Ytmpjjnjggiipjaa
