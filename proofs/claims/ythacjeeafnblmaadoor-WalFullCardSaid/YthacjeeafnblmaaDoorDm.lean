/- A disk in memory against a plain model of it. Numbers and types by name. -/
import Derived.Test.YthacjeeafnblmaaDoorBeg2
import Derived.Maps.OwnSet
import Derived.Sort.KeysCollected
/- What the disk's map of files is: the map in memory against a list of files. Numbers and types by name. -/
namespace Go.Proofs.YthacjeeafnblmaaDoor
open Go.RowKit Go.Maps Go.Sort Go.WideMaps

/-- A file as it lies in memory: its name, its block, the block of its bytes, its bytes, how many are synced. -/
structure FM where
  name : List UInt8
  blk : Nat
  row : Option Nat
  bytes : List UInt8
  sy : Nat

def named (k : List UInt8) (f : FM) : Bool := f.name == k

def Rp (v : Value) : Option (DataW Unit × List MemPlace) :=
  match v with
  | .pointer (some ⟨f, 0, none⟩) => some (.lit (.int .i64 f), [])
  | .pointer none => some (.nil, [])
  | _ => none

def look (files : List FM) (k : List UInt8) : DataW Unit :=
  match files.find? (named k) with
  | some f => .lit (.int .i64 f.blk)
  | none => .nil

def ptrOf (files : List FM) (k : List UInt8) : Option Addr := (files.find? (named k)).map fun f => ⟨f.blk, 0, none⟩

/-- The map m holds just the files. -/
def MapAt (w : World) (m : Nat) (files : List FM) : Prop :=
  ∃ D : DataW Unit, w.ownsMap Tryd.prog 9 Rp m files.length D ∧ Maps.size D = files.length ∧ (∀ k, D.atKey (.string k) .nil = look files k) ∧ ∀ k, Maps.has D (.string k) = files.any (named k)

theorem law : Keyed Tryd.prog 9 := string_keyed Tryd.underlying9
theorem zero_ptr (w : World) : (zeroValue 72).run Tryd.prog w = .ok (.pointer none) w := by kernel_rfl

theorem Rp_ptr {v : Value} {f : Nat} {ps : List MemPlace} (h : Rp v = some (.lit (.int .i64 f), ps)) : v = .pointer (some ⟨f, 0, none⟩) := by
  unfold Rp at h
  split at h
  · simp only [Option.some.injEq, Prod.mk.injEq, DataW.lit.injEq, Lit.int.injEq, true_and] at h
    rename_i g
    obtain rfl : g = f := by omega
    rfl
  · simp at h
  · simp at h

theorem Rp_nil {v : Value} {ps : List MemPlace} (h : Rp v = some (.nil, ps)) : v = .pointer none := by
  unfold Rp at h
  split at h
  · simp at h
  · rfl
  · simp at h

theorem MapAt.keep {w w' : World} {m : Nat} {files : List FM} (h : MapAt w m files) {F : List Nat} (t : Turn F w w') (hm : m ∉ F) : MapAt w' m files := by
  obtain ⟨D, ⟨es, clock, hb, F', hs, hD⟩, h2⟩ := h
  exact ⟨D, ⟨es, clock, t.heap hb hm, F', hs, hD⟩, h2⟩

theorem MapAt.lt {w : World} {m : Nat} {files : List FM} (h : MapAt w m files) : m < w.heap.size := by
  obtain ⟨D, h1, _⟩ := h; exact h1.lt

/-- The look-up. -/
theorem MapAt.look {w : World} {m : Nat} {files : List FM} (h : MapAt w m files) (key : ByteArray) (hk : key.size ≤ maxLen) :
    (Instr.lookup 52 (.map (some m)) (.string key) false).run Tryd.prog w = .ok (.pointer (ptrOf files key.data.toList)) w := by
  obtain ⟨D, hown, _, hat, _⟩ := h
  have hkey := keyOf_string_mk Tryd.underlying9 hk
  obtain ⟨v, ps, hrun, hv⟩ := hown.lookup law Tryd.underlying52 (zero_ptr w) (zd := .nil) (zp := []) rfl hkey
  rw [hat] at hv
  rw [hrun]
  unfold Go.Proofs.YthacjeeafnblmaaDoor.look at hv
  unfold ptrOf
  cases hf : files.find? (named key.data.toList) with
  | none => rw [hf] at hv; rw [Rp_nil hv]; rfl
  | some f => rw [hf] at hv; rw [Rp_ptr hv]; rfl

theorem look_none (w : World) (key : ByteArray) (hk : key.size ≤ maxLen) :
    (Instr.lookup 52 (.map none) (.string key) false).run Tryd.prog w = .ok (.pointer none) w :=
  look_nil false law Tryd.underlying52 (zero_ptr w) (keyOf_string_mk Tryd.underlying9 hk)

theorem MapAt.perm {w : World} {m : Nat} {files : List FM} (_h : MapAt w m files) (hn : (files.map (·.name)).Nodup) {D : DataW Unit} {n : Nat} (hown : w.ownsMap Tryd.prog 9 Rp m n D) (hh : ∀ k, Maps.has D (.string k) = files.any (named k)) :
    (files.map (·.name)).Perm (strKeys D) := by
  refine Collected.perm (left := fun _ => false) ⟨hn, fun x => ?_⟩ hown law Tryd.underlying9 (fun _ => rfl)
  rw [hh x]
  simp [named]

/-- A map that is made. -/
theorem MapAt.made (w : World) : MapAt (w.alloc (.map #[] 0)) w.heap.size [] :=
  ⟨.map [], World.ownsMap_made w _ _ _, rfl, fun _ => rfl, fun _ => rfl⟩

theorem look_append (files : List FM) (f : FM) (hf : files.any (named f.name) = false) (k : List UInt8) : Go.Proofs.YthacjeeafnblmaaDoor.look (files ++ [f]) k = if k = f.name then .lit (.int .i64 f.blk) else Go.Proofs.YthacjeeafnblmaaDoor.look files k := by
  unfold Go.Proofs.YthacjeeafnblmaaDoor.look
  rw [List.find?_append]
  by_cases hk : k = f.name
  · subst hk
    have : files.find? (named f.name) = none := by
      rw [List.find?_eq_none]
      intro x hx he
      have : files.any (named f.name) = true := List.any_eq_true.2 ⟨x, hx, he⟩
      rw [hf] at this; cases this
    simp [this, named]
  · have h1 : named k f = false := by simp [named]; exact fun e => hk e.symm
    simp [hk, h1]

/-- A new file under a new name. -/
theorem MapAt.put {w' : World} {m : Nat} {files : List FM} {f : FM} {D : DataW Unit} (h1 : Maps.size D = files.length) (h2 : ∀ k, D.atKey (.string k) .nil = Go.Proofs.YthacjeeafnblmaaDoor.look files k) (h3 : ∀ k, Maps.has D (.string k) = files.any (named k))
    (hi : IsMap D) (hT : Tidy D) (hf : files.any (named f.name) = false)
    (hown : w'.ownsMap Tryd.prog 9 Rp m (files.length + 1) (D.put (.string f.name) (.lit (.int .i64 f.blk)))) : MapAt w' m (files ++ [f]) := by
  refine ⟨_, by simpa using hown, ?_, fun k => ?_, fun k => ?_⟩
  · rw [size_put hT, h3, hf]; simp [h1]
  · rw [look_append files f hf k]
    by_cases hk : k = f.name
    · subst hk
      rw [atKey_put_same hi (by simp [WideAt.IsKeyLit]), if_pos rfl]
    · rw [atKey_put_other (by simpa using hk), if_neg hk, h2]
  · by_cases hk : k = f.name
    · subst hk
      rw [has_put_same hi (by simp [WideAt.IsKeyLit])]
      simp [named]
    · rw [has_put_other (by simpa using hk), h3]
      have : named k f = false := by simp [named]; exact fun e => hk e.symm
      simp [this]

end Go.Proofs.YthacjeeafnblmaaDoor

namespace Go.Proofs.YthacjeeafnblmaaDoor
open Go.RowKit Go.Maps Go.Sort Go.WideMaps

/-- The model of a disk in memory; mp: the block of its map; fr, kr: the blocks of its two lists. -/
structure DM where
  cap : Int
  cr : Int
  ca : Int
  dn : Bool
  dw : Bool
  fail : List Int
  keep : List Int
  files : List FM
  mp : Option Nat
  fr : Option Nat
  kr : Option Nat

def total (l : List FM) : Nat := (l.map fun f => f.bytes.length).sum

/-- The blocks that a call may write: the disk's own, the map's, each file's and its row's. -/
def FM.foot (f : FM) : List Nat := f.blk :: f.row.toList
def foot (b : Nat) (S : DM) : List Nat := b :: (S.mp.toList ++ S.files.flatMap FM.foot)

def FileAt (w : World) (base : Nat) (f : FM) : Prop :=
  ∃ ao c, FileC w f.blk (.slice ao f.bytes.length c) f.sy ∧ w.ownsRow base 5 1 (.slice ao f.bytes.length c) f.bytes.length (bv f.bytes) ∧ (Value.slice ao f.bytes.length c).ownBlock = f.row ∧ f.sy ≤ f.bytes.length

def Lists (w : World) (base b : Nat) (S : DM) (s : DS) : Prop :=
  ∃ ao c ao' c', s.fl = .slice ao S.fail.length c ∧ s.kp = .slice ao' S.keep.length c' ∧ w.ownsRow base 3 1 (.slice ao S.fail.length c) S.fail.length (iv S.fail) ∧ w.ownsRow base 3 1 (.slice ao' S.keep.length c') S.keep.length (iv S.keep) ∧
    (Value.slice ao S.fail.length c).ownBlock = S.fr ∧ (Value.slice ao' S.keep.length c').ownBlock = S.kr ∧ (∀ g, S.fr = some g → g ∉ foot b S) ∧ (∀ g, S.kr = some g → g ∉ foot b S)

structure Rep (w : World) (base b : Nat) (S : DM) (s : DS) : Prop where
  disk : DiskC w b s
  cap : s.cap = S.cap
  cr : s.cr = S.cr
  ca : s.ca = S.ca
  dn : s.dn = S.dn
  dw : s.dw = S.dw
  fs : s.fs = .map S.mp
  lists : Lists w base b S s
  mapN : S.mp = none → S.files = []
  mapS : ∀ m, S.mp = some m → MapAt w m S.files
  files : ∀ f ∈ S.files, FileAt w base f
  apart1 : ∀ m, S.mp = some m → b ≠ m
  apart2 : ∀ f ∈ S.files, b ∉ f.foot ∧ (∀ m, S.mp = some m → m ∉ f.foot) ∧ f.foot.Nodup
  apart3 : S.files.Pairwise fun f g => ∀ k ∈ f.foot, k ∉ g.foot
  low : ∀ k ∈ foot b S, base ≤ k
  names : (S.files.map (·.name)).Nodup
  sorted : S.fail.Pairwise (· ≤ ·)

theorem FileAt.keep {w w' : World} {base : Nat} {f : FM} (h : FileAt w base f) {F : List Nat} (t : Turn F w w') (hF : ∀ k ∈ f.foot, k ∉ F) : FileAt w' base f := by
  obtain ⟨ao, c, h1, h2, h3, h4⟩ := h
  exact ⟨ao, c, h1.turn t (hF _ (by simp [FM.foot])), owns_turn h2 t (fun g hg => hF g (by rw [h3] at hg; simp [FM.foot, hg])), h3, h4⟩

theorem FileAt.lt {w : World} {base : Nat} {f : FM} (h : FileAt w base f) : ∀ k ∈ f.foot, k < w.heap.size := by
  obtain ⟨ao, c, h1, h2, h3, h4⟩ := h
  intro k hk
  simp only [FM.foot, List.mem_cons, Option.mem_toList] at hk
  rcases hk with rfl | hk
  · exact h1.lt
  · exact (h2.lt k (h3.trans hk)).2

theorem Rep.lt {w : World} {base b : Nat} {S : DM} {s : DS} (h : Rep w base b S s) : ∀ k ∈ foot b S, k < w.heap.size := by
  intro k hk
  simp only [foot, List.mem_cons, List.mem_append, Option.mem_toList, List.mem_flatMap] at hk
  rcases hk with rfl | hk | ⟨f, hf, hk⟩
  · exact h.disk.lt
  · exact (h.mapS k hk).lt
  · exact (h.files f hf).lt k hk

/-- What is written beside a disk does not touch it. -/
theorem Rep.keep {w w' : World} {base b : Nat} {S : DM} {s : DS} (h : Rep w base b S s) {F : List Nat} (t : Turn F w w') (hF : ∀ k ∈ foot b S, k ∉ F) (hfr : ∀ g, S.fr = some g → g ∉ F) (hkr : ∀ g, S.kr = some g → g ∉ F) : Rep w' base b S s where
  disk := h.disk.turn t (hF b (by simp [foot]))
  cap := h.cap
  cr := h.cr
  ca := h.ca
  dn := h.dn
  dw := h.dw
  fs := h.fs
  lists := by
    obtain ⟨ao, c, ao', c', h1, h2, h3, h4, h5, h6, h7, h8⟩ := h.lists
    exact ⟨ao, c, ao', c', h1, h2, owns_turn h3 t (fun g hg => hfr g (h5.symm.trans hg)), owns_turn h4 t (fun g hg => hkr g (h6.symm.trans hg)), h5, h6, h7, h8⟩
  mapN := h.mapN
  mapS := fun m hm => (h.mapS m hm).keep t (hF m (by simp [foot, hm]))
  files := fun f hf => (h.files f hf).keep t (fun k hk => hF k (by simp only [foot, List.mem_cons, List.mem_append, List.mem_flatMap]; exact .inr (.inr ⟨f, hf, hk⟩)))
  apart1 := h.apart1
  apart2 := h.apart2
  apart3 := h.apart3
  low := h.low
  names := h.names
  sorted := h.sorted

/-- A new block, a draw. -/
theorem Rep.new {w w' : World} {base b : Nat} {S : DM} {s : DS} (h : Rep w base b S s) (t : Turn [] w w') : Rep w' base b S s := h.keep t (by simp) (by simp) (by simp)

/-- The look-up of a file. -/
theorem Rep.look {w : World} {base b : Nat} {S : DM} {s : DS} (h : Rep w base b S s) (key : ByteArray) (hk : key.size ≤ maxLen) :
    (Instr.lookup 52 s.fs (.string key) false).run Tryd.prog w = .ok (.pointer (ptrOf S.files key.data.toList)) w := by
  rw [h.fs]
  cases hm : S.mp with
  | none => rw [look_none w key hk]; simp [h.mapN hm, ptrOf]
  | some m => exact (h.mapS m hm).look key hk

end Go.Proofs.YthacjeeafnblmaaDoor
