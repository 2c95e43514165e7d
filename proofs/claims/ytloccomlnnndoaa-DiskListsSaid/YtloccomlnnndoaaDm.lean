/- A disk in memory against a plain model of it. Numbers and types by name. -/
import Derived.Test.YtloccomlnnndoaaRep
namespace Go.Proofs.Ytloccomlnnndoaa
open Go.RowKit Go.Maps Go.Sort Go.WideMaps

/-- The model of a disk in memory; mp: the block of its map; fr, kr: the blocks of its two lists. -/
structure DM where
  cap : Int
  cr : Int
  ca : Int
  dn : Bool
  dw : Bool
  fail : List Int
  keep : List Int
  files : List FM
  mp : Option Nat
  fr : Option Nat
  kr : Option Nat

def total (l : List FM) : Nat := (l.map fun f => f.bytes.length).sum

/-- The blocks that a call may write: the disk's own, the map's, each file's and its row's. -/
def FM.foot (f : FM) : List Nat := f.blk :: f.row.toList
def foot (b : Nat) (S : DM) : List Nat := b :: (S.mp.toList ++ S.files.flatMap FM.foot)

def FileAt (w : World) (base : Nat) (f : FM) : Prop :=
  ∃ ao c, FileC w f.blk (.slice ao f.bytes.length c) f.sy ∧ w.ownsRow base 5 1 (.slice ao f.bytes.length c) f.bytes.length (bv f.bytes) ∧ (Value.slice ao f.bytes.length c).ownBlock = f.row ∧ f.sy ≤ f.bytes.length

def Lists (w : World) (base b : Nat) (S : DM) (s : DS) : Prop :=
  ∃ ao c ao' c', s.fl = .slice ao S.fail.length c ∧ s.kp = .slice ao' S.keep.length c' ∧ w.ownsRow base 3 1 (.slice ao S.fail.length c) S.fail.length (iv S.fail) ∧ w.ownsRow base 3 1 (.slice ao' S.keep.length c') S.keep.length (iv S.keep) ∧
    (Value.slice ao S.fail.length c).ownBlock = S.fr ∧ (Value.slice ao' S.keep.length c').ownBlock = S.kr ∧ (∀ g, S.fr = some g → g ∉ foot b S) ∧ (∀ g, S.kr = some g → g ∉ foot b S)

structure Rep (w : World) (base b : Nat) (S : DM) (s : DS) : Prop where
  disk : DiskC w b s
  cap : s.cap = S.cap
  cr : s.cr = S.cr
  ca : s.ca = S.ca
  dn : s.dn = S.dn
  dw : s.dw = S.dw
  fs : s.fs = .map S.mp
  lists : Lists w base b S s
  mapN : S.mp = none → S.files = []
  mapS : ∀ m, S.mp = some m → MapAt w m S.files
  files : ∀ f ∈ S.files, FileAt w base f
  apart1 : ∀ m, S.mp = some m → b ≠ m
  apart2 : ∀ f ∈ S.files, b ∉ f.foot ∧ (∀ m, S.mp = some m → m ∉ f.foot) ∧ f.foot.Nodup
  apart3 : S.files.Pairwise fun f g => ∀ k ∈ f.foot, k ∉ g.foot
  low : ∀ k ∈ foot b S, base ≤ k
  names : (S.files.map (·.name)).Nodup
  sorted : S.fail.Pairwise (· ≤ ·)

theorem FileAt.keep {w w' : World} {base : Nat} {f : FM} (h : FileAt w base f) {F : List Nat} (t : Turn F w w') (hF : ∀ k ∈ f.foot, k ∉ F) : FileAt w' base f := by
  obtain ⟨ao, c, h1, h2, h3, h4⟩ := h
  exact ⟨ao, c, h1.turn t (hF _ (by simp [FM.foot])), owns_turn h2 t (fun g hg => hF g (by rw [h3] at hg; simp [FM.foot, hg])), h3, h4⟩

theorem FileAt.lt {w : World} {base : Nat} {f : FM} (h : FileAt w base f) : ∀ k ∈ f.foot, k < w.heap.size := by
  obtain ⟨ao, c, h1, h2, h3, h4⟩ := h
  intro k hk
  simp only [FM.foot, List.mem_cons, Option.mem_toList] at hk
  rcases hk with rfl | hk
  · exact h1.lt
  · exact (h2.lt k (h3.trans hk)).2

theorem Rep.lt {w : World} {base b : Nat} {S : DM} {s : DS} (h : Rep w base b S s) : ∀ k ∈ foot b S, k < w.heap.size := by
  intro k hk
  simp only [foot, List.mem_cons, List.mem_append, Option.mem_toList, List.mem_flatMap] at hk
  rcases hk with rfl | hk | ⟨f, hf, hk⟩
  · exact h.disk.lt
  · exact (h.mapS k hk).lt
  · exact (h.files f hf).lt k hk

/-- What is written beside a disk does not touch it. -/
theorem Rep.keep {w w' : World} {base b : Nat} {S : DM} {s : DS} (h : Rep w base b S s) {F : List Nat} (t : Turn F w w') (hF : ∀ k ∈ foot b S, k ∉ F) (hfr : ∀ g, S.fr = some g → g ∉ F) (hkr : ∀ g, S.kr = some g → g ∉ F) : Rep w' base b S s where
  disk := h.disk.turn t (hF b (by simp [foot]))
  cap := h.cap
  cr := h.cr
  ca := h.ca
  dn := h.dn
  dw := h.dw
  fs := h.fs
  lists := by
    obtain ⟨ao, c, ao', c', h1, h2, h3, h4, h5, h6, h7, h8⟩ := h.lists
    exact ⟨ao, c, ao', c', h1, h2, owns_turn h3 t (fun g hg => hfr g (h5.symm.trans hg)), owns_turn h4 t (fun g hg => hkr g (h6.symm.trans hg)), h5, h6, h7, h8⟩
  mapN := h.mapN
  mapS := fun m hm => (h.mapS m hm).keep t (hF m (by simp [foot, hm]))
  files := fun f hf => (h.files f hf).keep t (fun k hk => hF k (by simp only [foot, List.mem_cons, List.mem_append, List.mem_flatMap]; exact .inr (.inr ⟨f, hf, hk⟩)))
  apart1 := h.apart1
  apart2 := h.apart2
  apart3 := h.apart3
  low := h.low
  names := h.names
  sorted := h.sorted

/-- A new block, a draw. -/
theorem Rep.new {w w' : World} {base b : Nat} {S : DM} {s : DS} (h : Rep w base b S s) (t : Turn [] w w') : Rep w' base b S s := h.keep t (by simp) (by simp) (by simp)

/-- The look-up of a file. -/
theorem Rep.look {w : World} {base b : Nat} {S : DM} {s : DS} (h : Rep w base b S s) (key : ByteArray) (hk : key.size ≤ maxLen) :
    (Instr.lookup 63 s.fs (.string key) false).run Try.prog w = .ok (.pointer (ptrOf S.files key.data.toList)) w := by
  rw [h.fs]
  cases hm : S.mp with
  | none => rw [look_none w key hk]; simp [h.mapN hm, ptrOf]
  | some m => exact (h.mapS m hm).look key hk

end Go.Proofs.Ytloccomlnnndoaa
