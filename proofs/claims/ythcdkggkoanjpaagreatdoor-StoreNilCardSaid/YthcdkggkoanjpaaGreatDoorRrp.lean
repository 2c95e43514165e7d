/- The reference's Replay. Numbers and types by name. -/
import Derived.Test.YthcdkggkoanjpaaGreatDoorWpl
import Derived.Test.YthcdkggkoanjpaaGreatDoorPrf
import Derived.Test.YthcdkggkoanjpaaGreatDoorWri
import Derived.StillTactics
import Derived.Laws.BitsLemmas
import Derived.StillTailTactics
import Derived.BigRegion
import Derived.RegionTactic
import Derived.ChangeAlike
import Derived.Maps.OwnSet
import Derived.Sort.KeysCollected
import Derived.WalkSpells
import Derived.Test.YthcdkggkoanjpaaGreatDoorChecked
import Derived.WalkKit
import Derived.WalkLawsBesides
import Derived.Lib.Hide
import Derived.BigQuiet
import Derived.Deep.QuietTactic
import Derived.ArgAppend
import Derived.OwnWalk
import Derived.Deep.RegionLaw
import Derived.Deep.AppendLies
import Derived.Lib.AppendStr
import Derived.Laws.IdiomStrings
import Derived.Lib.SlBytesConst
import Derived.Test.YthcdkggkoanjpaaGreatDoorPut
import Derived.Test.YthcdkggkoanjpaaGreatDoorBel
import Derived.Test.YthcdkggkoanjpaaGreatDoorBri
/- While a log is not sick, its disk is up, and has the log's file, as long as the log says: plain facts. Numbers and types by name. -/
namespace Go.Proofs.YthcdkggkoanjpaaGreatDoor
open Go.RowKit Go.Lib
theorem act_cases {M : MD} (hd : M.dw = false) (op : Opn) :
    ((M.act op).1 = 7 ∧ (M.act op).2.dw = true ∧ ((M.act op).2.fs = M.fs ∨ (M.act op).2.fs = (op M.cap M.fs).2)) ∨
    ((M.act op).1 = 6 ∧ (M.act op).2.dw = false ∧ (M.act op).2.fs = M.fs ∧ (M.act op).2.cap = M.cap) ∨
    ((M.act op).1 = (op M.cap M.fs).1 ∧ (M.act op).2.dw = false ∧ (M.act op).2.fs = (op M.cap M.fs).2 ∧ (M.act op).2.cap = M.cap) := by
  unfold MD.act
  rw [if_neg (by simp [hd])]
  by_cases h1 : M.n + 1 = M.cr
  · rw [if_pos h1]
    refine .inl ⟨rfl, rfl, ?_⟩
    show (if M.dn = true then _ else _) = _ ∨ (if M.dn = true then _ else _) = _
    split
    · exact .inr rfl
    · exact .inl rfl
  · rw [if_neg h1]
    by_cases h2 : M.fail.contains (M.n + 1) = true
    · rw [if_pos h2]
      exact .inr (.inl ⟨rfl, hd, rfl, rfl⟩)
    · rw [if_neg h2]
      exact .inr (.inr ⟨rfl, hd, rfl, rfl⟩)
theorem find_updE {k : List UInt8} {u : Ent → Ent} (hu : ∀ x, (u x).1 = x.1) (fs : List Ent) : (updE k u fs).find? (isName k) = (fs.find? (isName k)).map u := by
  induction fs with
  | nil => rfl
  | cons y l ih =>
    have e : updE k u (y :: l) = (if isName k y = true then u y else y) :: updE k u l := by simp [updE]
    rw [e]
    by_cases hy : isName k y = true
    · have hu' : isName k (u y) = true := by rw [isName_iff, hu]; exact isName_iff.1 hy
      rw [if_pos hy, List.find?_cons_of_pos hu', List.find?_cons_of_pos hy]
      rfl
    · rw [if_neg hy, List.find?_cons_of_neg hy, List.find?_cons_of_neg hy, ih]
def Long (fs : List Ent) (n : Nat) : Prop := ∃ x, fs.find? (isName logK) = some x ∧ x.2.1.length = n
def Has (M : MD) (n : Nat) : Prop := M.dw = false ∧ Long M.fs n
def Fits (M : MD) (n : Nat) (s : Bool) : Prop := s = false → Has M n
theorem fits_sick {M : MD} {n : Nat} : Fits M n true := fun h => by cases h
theorem Has.read {M : MD} {n : Nat} (h : Has M n) : (M.read logK).2 = 0 ∧ (M.read logK).1.length = n := by
  obtain ⟨h1, x, h2, h3⟩ := h
  unfold MD.read
  rw [if_neg (by simp [h1]), h2]
  exact ⟨rfl, h3⟩
theorem has_read {M : MD} (h : (M.read logK).2 = 0) : Has M (M.read logK).1.length := by
  unfold MD.read at *
  by_cases hd : M.dw = true
  · rw [if_pos hd] at h; cases h
  · rw [if_neg hd] at h ⊢
    have hd' : M.dw = false := by simpa using hd
    split at h
    · cases h
    · rename_i x hx
      exact ⟨hd', x, hx, rfl⟩
theorem long_append {fs : List Ent} {n : Nat} (h : Long fs n) (l : List UInt8) (cap : Int) : ((opAppend logK l cap fs).1 = 5 ∧ (opAppend logK l cap fs).2 = fs) ∨ ((opAppend logK l cap fs).1 = 0 ∧ Long (opAppend logK l cap fs).2 (n + l.length)) := by
  obtain ⟨x, hx, rfl⟩ := h
  unfold opAppend
  rw [hx]
  simp only
  split
  · exact .inl ⟨rfl, rfl⟩
  · refine .inr ⟨rfl, (x.1, x.2.1 ++ l, x.2.2), ?_, ?_⟩
    · show (updE logK (fun x => (x.1, x.2.1 ++ l, x.2.2)) fs).find? (isName logK) = _
      rw [find_updE (u := fun x => (x.1, x.2.1 ++ l, x.2.2)) (fun _ => rfl), hx]; rfl
    · simp
theorem long_sync {fs : List Ent} {n : Nat} (h : Long fs n) (cap : Int) : (opSync logK cap fs).1 = 0 ∧ Long (opSync logK cap fs).2 n := by
  obtain ⟨x, hx, rfl⟩ := h
  unfold opSync
  rw [hx]
  refine ⟨rfl, (x.1, x.2.1, x.2.1.length), ?_, rfl⟩
  show (updE logK (fun x => (x.1, x.2.1, x.2.1.length)) fs).find? (isName logK) = _
  rw [find_updE (u := fun x => (x.1, x.2.1, x.2.1.length)) (fun _ => rfl), hx]; rfl
theorem long_cut {fs : List Ent} {m : Nat} (h : Long fs m) (n : Nat) (hn : n ≤ m) (cap : Int) : (opCut logK n cap fs).1 = 0 ∧ Long (opCut logK n cap fs).2 n := by
  obtain ⟨x, hx, rfl⟩ := h
  unfold opCut
  rw [hx]
  simp only
  rw [if_neg (by omega)]
  refine ⟨rfl, (x.1, x.2.1.take (n : Int).toNat, min x.2.2 (n : Int).toNat), ?_, ?_⟩
  · show (updE logK (fun x => (x.1, x.2.1.take (n : Int).toNat, min x.2.2 (n : Int).toNat)) fs).find? (isName logK) = _
    rw [find_updE (u := fun x => (x.1, x.2.1.take (n : Int).toNat, min x.2.2 (n : Int).toNat)) (fun _ => rfl), hx]; rfl
  · show (x.2.1.take (n : Int).toNat).length = n
    rw [List.length_take]; omega
theorem long_create {fs : List Ent} (h : Rising fs) (cap : Int) (h0 : (opCreate logK cap fs).1 = 0) : Long (opCreate logK cap fs).2 0 := by
  unfold opCreate at *
  rw [if_neg (by simp [logK])] at h0 ⊢
  by_cases ha : fs.any (isName logK) = true
  · rw [if_pos ha] at h0; cases h0
  · rw [if_neg ha]
    refine ⟨(logK, [], 0), ?_, rfl⟩
    have hr : Rising (insE (logK, [], 0) fs) := insE_rising h (by simpa using ha)
    exact find_self hr (x := (logK, [], 0)) ((insE_perm _ fs).mem_iff.2 (by simp))
theorem has_cut {M : MD} {m : Nat} (h : Has M m) (n : Nat) (hn : n ≤ m) (h0 : (M.act (opCut logK n)).1 = 0) : Has (M.act (opCut logK n)).2 n := by
  rcases act_cases h.1 (opCut logK n) with ⟨a1, _⟩ | ⟨a1, _⟩ | ⟨a1, a2, a3, _⟩
  · rw [h0] at a1; cases a1
  · rw [h0] at a1; cases a1
  · refine ⟨a2, ?_⟩
    rw [a3]; exact (long_cut h.2 n hn M.cap).2
theorem has_sync {M : MD} {n : Nat} (h : Has M n) : ((M.act (opSync logK)).1 = 0 → Has (M.act (opSync logK)).2 n) ∧ ((M.act (opSync logK)).1 ≠ 7 → Has (M.act (opSync logK)).2 n) := by
  have key : (M.act (opSync logK)).1 ≠ 7 → Has (M.act (opSync logK)).2 n := by
    intro h7
    rcases act_cases h.1 (opSync logK) with ⟨a1, _⟩ | ⟨_, a2, a3, _⟩ | ⟨_, a2, a3, _⟩
    · exact absurd a1 h7
    · exact ⟨a2, by rw [a3]; exact h.2⟩
    · exact ⟨a2, by rw [a3]; exact (long_sync h.2 M.cap).2⟩
  exact ⟨fun h0 => key (by rw [h0]; decide), key⟩
theorem has_append {M : MD} {n : Nat} (h : Has M n) (l : List UInt8) : ((M.act (opAppend logK l)).1 = 0 → Has (M.act (opAppend logK l)).2 (n + l.length)) ∧ ((M.act (opAppend logK l)).1 ≠ 0 → (M.act (opAppend logK l)).1 ≠ 7 → Has (M.act (opAppend logK l)).2 n) := by
  rcases act_cases h.1 (opAppend logK l) with ⟨a1, _⟩ | ⟨a1, a2, a3, _⟩ | ⟨a1, a2, a3, _⟩
  · exact ⟨(fun h0 => by rw [h0] at a1; cases a1), fun _ h7 => absurd a1 h7⟩
  · exact ⟨(fun h0 => by rw [h0] at a1; cases a1), fun _ _ => ⟨a2, by rw [a3]; exact h.2⟩⟩
  · rcases long_append h.2 l M.cap with ⟨b1, b2⟩ | ⟨b1, b2⟩
    · exact ⟨(fun h0 => by rw [a1, b1] at h0; cases h0), fun _ _ => ⟨a2, by rw [a3, b2]; exact h.2⟩⟩
    · exact ⟨fun _ => ⟨a2, by rw [a3]; exact b2⟩, fun h0 => by rw [a1, b1] at h0; exact absurd rfl h0⟩
theorem fits_commitC {M : MD} {m : Nat} (e : Int) (n : Nat) (h : e ≠ 7 → Has M m) (hn : n ≤ m) : Fits (commitC M e n).M (commitC M e n).n (commitC M e n).s := by
  unfold commitC
  by_cases h7 : e = 7
  · rw [if_pos h7]; exact fits_sick
  · rw [if_neg h7]
    intro h0
    have h0' : (M.act (opCut logK n)).1 = 0 := by
      have : decide ((M.act (opCut logK n)).1 ≠ 0) = false := h0
      simpa using this
    exact has_cut (h h7) n hn h0'
theorem fits_commit {M : MD} {n : Nat} {s : Bool} (h : Fits M n s) (L : List Opm) : Fits (commitP M n s L).M (commitP M n s L).n (commitP M n s L).s := by
  unfold commitP
  cases s with
  | true => rw [if_pos rfl]; exact h
  | false =>
  rw [if_neg (by simp)]
  cases hok : okOps L with
  | false => rw [if_pos rfl]; exact h
  | true =>
  rw [if_neg (by simp)]
  obtain ⟨a1, a2⟩ := has_append (h rfl) (frms (recs L))
  unfold commitA
  by_cases h0 : (M.act (opAppend logK (frms (recs L)))).1 = 0
  · rw [if_pos h0]
    obtain ⟨b1, b2⟩ := has_sync (a1 h0)
    by_cases h1 : ((M.act (opAppend logK (frms (recs L)))).2.act (opSync logK)).1 = 0
    · rw [if_pos h1]
      exact fun _ => b1 h1
    · rw [if_neg h1]
      exact fits_commitC _ n b2 (by omega)
  · rw [if_neg h0]
    exact fits_commitC _ n (a2 h0) (Nat.le_refl _)
theorem fits_reset {M : MD} {n : Nat} {s : Bool} (h : Fits M n s) : Fits (resetP M n s).M (resetP M n s).n (resetP M n s).s := by
  unfold resetP
  cases s with
  | true => rw [if_pos rfl]; exact h
  | false =>
  rw [if_neg (by simp)]
  intro h0
  have h7 : (M.act (opCut logK 0)).1 ≠ 7 := by
    have : decide ((M.act (opCut logK 0)).1 = 7) = false := h0
    simpa using this
  obtain ⟨hd, hl⟩ := h rfl
  have hc := long_cut hl 0 (Nat.zero_le _) M.cap
  have hc' : (opCut logK 0 M.cap M.fs).1 = 0 ∧ Long (opCut logK 0 M.cap M.fs).2 0 := hc
  rcases act_cases hd (opCut logK 0) with ⟨a1, _⟩ | ⟨a1, a2, a3, _⟩ | ⟨a1, a2, a3, _⟩
  · exact absurd a1 h7
  · refine ⟨a2, ?_⟩
    show Long (M.act (opCut logK 0)).2.fs (if (M.act (opCut logK 0)).1 = 0 then 0 else n)
    rw [a3, a1, if_neg (by decide)]; exact hl
  · refine ⟨a2, ?_⟩
    show Long (M.act (opCut logK 0)).2.fs (if (M.act (opCut logK 0)).1 = 0 then 0 else n)
    rw [a3, a1, hc'.1, if_pos rfl]; exact hc'.2
theorem fits_openR {M : MD} {b : List UInt8} (h : Has M (endOf b)) (h0 : (openR M b).e = 0) : Fits (openR M b).M (openR M b).n false := by
  unfold openR at *
  by_cases h1 : (M.act (opSync logK)).1 = 0
  · rw [if_pos h1]
    exact fun _ => (has_sync h).1 h1
  · rw [if_neg h1] at h0
    exact absurd h0 h1
theorem fits_openQ {M : MD} {b : List UInt8} (h : Has M b.length) (he : endOf b ≤ b.length) (h0 : (openQ M b).e = 0) : Fits (openQ M b).M (openQ M b).n false := by
  unfold openQ at *
  by_cases hlt : endOf b < b.length
  · rw [if_pos hlt] at h0 ⊢
    by_cases h1 : (M.act (opCut logK (endOf b))).1 = 0
    · rw [if_pos h1] at h0 ⊢
      exact fits_openR (has_cut h _ he h1) h0
    · rw [if_neg h1] at h0
      exact absurd h0 h1
  · rw [if_neg hlt] at h0 ⊢
    have e : endOf b = b.length := by omega
    exact fits_openR (by rw [e]; exact h) h0
theorem one_whole {b p r : List UInt8} (h : one? b = some (p, r)) : b.length = 8 + p.length + r.length := by
  by_cases h8 : 8 ≤ b.length
  · obtain ⟨q, hq⟩ : ∃ q : Nat, numOf ((b.drop 0).take 4) = q := ⟨_, (Int.toNat_of_nonneg (numOf_bound _).1).symm⟩
    obtain ⟨s, hs⟩ : ∃ s : Nat, numOf ((b.drop (0 + 4)).take 4) = s := ⟨_, (Int.toNat_of_nonneg (numOf_bound _).1).symm⟩
    have h1 := one_drop (b := b) (k := 0) (by omega) q s hq hs
    rw [List.drop_zero] at h1
    rw [h1] at h
    split at h
    · rename_i hc
      simp only [Option.some.injEq, Prod.mk.injEq] at h
      obtain ⟨rfl, rfl⟩ := h
      simp only [List.length_take, List.length_drop]
      omega
    · cases h
  · have h1 := one_short (b := b) (k := 0) (by omega)
    rw [List.drop_zero] at h1
    rw [h1] at h
    cases h
theorem scans_le {b : List UInt8} {l : List (List UInt8)} {n : Nat} (h : Scans b l n) : n ≤ b.length := by
  induction h with
  | stop _ => exact Nat.zero_le _
  | more h0 _ ih => have := one_whole h0; omega
theorem endOf_le (b : List UInt8) : endOf b ≤ b.length := by
  have h1 := scn_spec b
  have h2 := scans_size h1
  have h3 := frms_take (scn b) (usedOf b)
  have h4 := scans_le h1
  unfold endOf
  omega
theorem fits_open {M : MD} (hr : Rising M.fs) (h0 : (openP M).e = 0) : Fits (openP M).M (openP M).n false := by
  unfold openP at *
  by_cases h3 : (M.read logK).2 = 3
  · rw [if_pos h3] at h0 ⊢
    by_cases h1 : (M.act (opCreate logK)).1 = 0
    · rw [if_pos h1] at h0 ⊢
      refine fits_openQ ?_ (endOf_le _) h0
      have hd : M.dw = false := by
        cases hd : M.dw with
        | false => rfl
        | true => unfold MD.read at h3; rw [if_pos hd] at h3; cases h3
      rcases act_cases hd (opCreate logK) with ⟨a1, _⟩ | ⟨a1, _⟩ | ⟨a1, a2, a3, _⟩
      · rw [h1] at a1; cases a1
      · rw [h1] at a1; cases a1
      · refine ⟨a2, ?_⟩
        rw [a3]; exact long_create hr M.cap (by rw [← a1]; exact h1)
    · rw [if_neg h1] at h0
      exact absurd h0 h1
  · rw [if_neg h3] at h0 ⊢
    by_cases h1 : (M.read logK).2 = 0
    · rw [if_pos h1] at h0 ⊢
      exact fits_openQ (has_read h1) (endOf_le _) h0
    · rw [if_neg h1] at h0
      exact absurd h0 h1
end Go.Proofs.YthcdkggkoanjpaaGreatDoor

/- The reference's log: Reset. Numbers and types by name. -/
namespace Go.Proofs.YthcdkggkoanjpaaGreatDoor
open Go.RowKit Go.Lib
set_option maxRecDepth 100000
def wob (T : TypeId) (d : Value) (n : Nat) (s : Bool) : Obj := .cells #[d, .int .i64 (n : Int), .bool s] T
theorem wob_n {T : TypeId} {w : World} {p : Nat} {d : Value} {n : Nat} {s : Bool} (h : w.heap[p]? = some (wob T d n s)) (m : Nat) : (w.setCell ⟨p, 1, none⟩ (.int .i64 (m : Int))).heap[p]? = some (wob T d m s) := heap_set h 1 _
theorem wob_s {T : TypeId} {w : World} {p : Nat} {d : Value} {n : Nat} {s : Bool} (h : w.heap[p]? = some (wob T d n s)) (b : Bool) : (w.setCell ⟨p, 2, none⟩ (.bool b)).heap[p]? = some (wob T d n b) := heap_set h 2 _
theorem wob_0 {T : TypeId} {w : World} {p : Nat} {d : Value} {n : Nat} {s : Bool} (h : w.heap[p]? = some (wob T d n s)) : w.cell? ⟨p, 0, none⟩ = some d := cells_of h 0 _ rfl
theorem wob_1 {T : TypeId} {w : World} {p : Nat} {d : Value} {n : Nat} {s : Bool} (h : w.heap[p]? = some (wob T d n s)) : w.cell? ⟨p, 1, none⟩ = some (.int .i64 (n : Int)) := cells_of h 1 _ rfl
theorem wob_2 {T : TypeId} {w : World} {p : Nat} {d : Value} {n : Nat} {s : Bool} (h : w.heap[p]? = some (wob T d n s)) : w.cell? ⟨p, 2, none⟩ = some (.bool s) := cells_of h 2 _ rfl
theorem wob_free {T : TypeId} {w : World} {p : Nat} {d : Value} {n : Nat} {s : Bool} (h : w.heap[p]? = some (wob T d n s)) (j : Nat) : w.frozen? ⟨p, j, none⟩ = false := free_of h j
theorem Turn.nil_any {w w' : World} {F : List Nat} (t : Turn [] w w') : Turn F w w' := t.mono (by simp)
theorem Bs.turn {w w' : World} {base : Nat} {v : Value} {n : Nat} {l : List UInt8} {F : List Nat} (h : Bs w base v n l) (t : Turn F w w') (hF : ∀ k ∈ F, k < base) : Reads w' v (bv l) := by
  have hr := h.reads
  obtain ⟨ao, c, e, h0, h1, h2⟩ := hr
  refine ⟨ao, c, e, h0, h1, fun a ha j u hj => ?_⟩
  have hc := h2 a ha j u hj
  have hlt := World.block_lt_of_cell? w _ hc
  refine (World.cell?_of_block (t.block _ hlt fun hm => ?_)).trans hc
  have hb : (a.add j).block = a.block := by unfold Addr.add; split <;> rfl
  rw [hb] at hm
  have := hF _ hm
  have hown : v.ownBlock = some a.block := by rw [e, ha]; rfl
  have := (h.2.lt _ hown).1
  omega
end Go.Proofs.YthcdkggkoanjpaaGreatDoor

/- Bits of lists of bytes; bits that are turned. Numbers and types by name. -/
namespace Go.Proofs.YthcdkggkoanjpaaGreatDoor
open Go.RowKit Go.Lib
def turn (l : List UInt8) (k : Nat) (bt : Bool) : List UInt8 := l.set (k / 8) ((l[k / 8]?).getD 0 ^^^ UInt8.ofNat (bt.toNat * 2 ^ (k % 8)))
end Go.Proofs.YthcdkggkoanjpaaGreatDoor

namespace Go.Proofs.YthcdkggkoanjpaaGreatDoor
open Go.RowKit Go.Lib
theorem Cells.grown {w w' : World} {v : Value} {size n : Nat} {xs : List Value} {row : Option Nat} (h : Cells w v size n xs) (hg : w.grownBy w' row) (hne : ∀ a n c, v = .slice (some a) n c → some a.block ≠ row) : Cells w' v size n xs := by
  obtain ⟨ao, cap, rfl, h0, h1, h2, h3⟩ := h
  refine ⟨ao, cap, rfl, h0, h1, h2, fun a ha j u hj => ?_⟩
  have := h3 a ha j u hj
  have hb : (a.add j).block = a.block := by unfold Addr.add; split <;> rfl
  exact hg.cell this (by rw [hb]; exact hne a _ _ (by rw [ha]))
theorem Opr.grown {w w' : World} {v : Value} {n : Nat} {L : List Opm} {row : Option Nat} (h : Opr w v n L) (hg : w.grownBy w' row) (hne : ∀ a n c, v = .slice (some a) n c → some a.block ≠ row) : Opr w' v n L := ⟨h.1, h.2.1, h.2.2.1.grown hg hne, h.2.2.2⟩
theorem OpVals.grown {w w' : World} {vs : List Value} {LL : List (List Opm)} {row : Option Nat} (h : OpVals w vs LL) (hg : w.grownBy w' row) (hne : ∀ u ∈ vs, ∀ a n c, u = .slice (some a) n c → some a.block ≠ row) : OpVals w' vs LL :=
  ⟨h.1, fun j L hj => by
    obtain ⟨ao, c, e1, e2⟩ := h.2 j L hj
    exact ⟨ao, c, e1, e2.grown hg (hne _ (List.mem_of_getElem? e1))⟩⟩
def Batch (w : World) (base : Nat) (lv nv : Value) (j m : Nat) (done : List (List Opm)) (now : List Opm) (vs : List Value) : Prop :=
  j = done.length ∧ m = now.length ∧ w.ownsRow base 52 1 lv j vs ∧ OpVals w vs done ∧ (∀ u ∈ vs, ∀ a n c, u = .slice (some a) n c → a.block < w.heap.size ∧ some a.block ≠ lv.ownBlock ∧ some a.block ≠ nv.ownBlock ∧ base ≤ a.block) ∧
    w.ownsRow base 65 3 nv m (ovs now) ∧ ∀ o ∈ now, o.key.size ≤ maxLen ∧ o.val.size ≤ maxLen
theorem Batch.later {w w' : World} {base : Nat} {lv nv : Value} {j m : Nat} {done : List (List Opm)} {now : List Opm} {vs : List Value} (h : Batch w base lv nv j m done now vs) (hg : Grow w w') : Batch w' base lv nv j m done now vs := by
  obtain ⟨h1, h2, h3, h4, h5, h6, h7⟩ := h
  exact ⟨h1, h2, owns_below h3 hg (Nat.le_refl _), h4.later hg, fun u hu a n c e => ⟨Nat.lt_of_lt_of_le (h5 u hu a n c e).1 hg.size, (h5 u hu a n c e).2⟩, owns_below h6 hg (Nat.le_refl _), h7⟩
theorem Batch.nil (w : World) (base : Nat) : Batch w base (.slice none 0 0) (.slice none 0 0) 0 0 [] [] [] :=
  ⟨rfl, rfl, World.ownsRow_nil _ _ _ _, ⟨rfl, fun j p h => by cases h⟩, (fun u hu => by cases hu), World.ownsRow_nil _ _ _ _, fun o h => by cases h⟩
theorem Batch.op {w w' : World} {base : Nat} {lv nv nv' : Value} {j m : Nat} {done : List (List Opm)} {now : List Opm} {vs : List Value} (h : Batch w base lv nv j m done now vs) (o : Opm) (ho : o.key.size ≤ maxLen ∧ o.val.size ≤ maxLen)
    (hn : w'.ownsRow base 65 3 nv' (m + 1) (ovs now ++ ov o)) (hg : w.grownBy w' nv.ownBlock) (hb : nv'.ownBlock = nv.ownBlock ∨ nv'.ownBlock = some w.heap.size) : Batch w' base lv nv' j (m + 1) done (now ++ [o]) vs := by
  obtain ⟨h1, h2, h3, h4, h5, h6, h7⟩ := h
  have hap := owns_apart h3 h6 (by decide)
  refine ⟨h1, by rw [h2, List.length_append]; rfl, owns_grown h3 hg (fun g hv => hap g hv), h4.grown hg (fun u hu a n c e => (h5 u hu a n c e).2.2.1), fun u hu a n c e => ?_, ?_, fun p hp => ?_⟩
  · obtain ⟨x1, x2, x3, x4⟩ := h5 u hu a n c e
    refine ⟨Nat.lt_of_lt_of_le x1 hg.size, x2, ?_, x4⟩
    rcases hb with hb | hb <;> rw [hb]
    · exact x3
    · intro e; simp only [Option.some.injEq] at e; omega
  · have : ovs (now ++ [o]) = ovs now ++ ov o := by simp [ovs]
    rw [this]; exact hn
  · rcases List.mem_append.1 hp with hp | hp
    · exact h7 p hp
    · rw [List.mem_singleton.1 hp]; exact ho
theorem Batch.now {w : World} {base : Nat} {lv nv : Value} {j m : Nat} {done : List (List Opm)} {now : List Opm} {vs : List Value} (h : Batch w base lv nv j m done now vs) (hm : m ≤ maxLen) : Opr w nv m now :=
  ⟨h.2.1, hm, Cells.own h.2.2.2.2.2.1 (by decide), h.2.2.2.2.2.2⟩
theorem Batch.done {w w' : World} {base : Nat} {lv lv' nv : Value} {j m : Nat} {done : List (List Opm)} {now : List Opm} {vs : List Value} (h : Batch w base lv nv j m done now vs) (hm : m ≤ maxLen)
    (hl : w'.ownsRow base 52 1 lv' (j + 1) (vs ++ [nv])) (hg : w.grownBy w' lv.ownBlock) (hb : lv'.ownBlock = lv.ownBlock ∨ lv'.ownBlock = some w.heap.size) : Batch w' base lv' (.slice none 0 0) (j + 1) 0 (done ++ [now]) [] (vs ++ [nv]) := by
  have hnow := h.now hm
  obtain ⟨h1, h2, h3, h4, h5, h6, h7⟩ := h
  have hap := owns_apart h6 h3 (by decide)
  have hne : ∀ a n c, nv = .slice (some a) n c → a.block < w.heap.size ∧ some a.block ≠ lv.ownBlock ∧ base ≤ a.block := fun a n c e => by
    have hown : nv.ownBlock = some a.block := by rw [e]; rfl
    exact ⟨(h6.lt _ hown).2, fun e2 => hap _ hown e2.symm, (h6.lt _ hown).1⟩
  refine ⟨by rw [h1, List.length_append]; rfl, rfl, hl, ⟨by rw [List.length_append, List.length_append, h4.1]; rfl, fun i L hi => ?_⟩, fun u hu a n c e => ?_, World.ownsRow_nil _ _ _ _, fun o h => by cases h⟩
  · have h4' := h4.grown hg (fun u hu a n c e => (h5 u hu a n c e).2.1)
    by_cases hlt : i < done.length
    · rw [List.getElem?_append_left hlt] at hi
      rw [List.getElem?_append_left (by rw [h4.1]; exact hlt)]
      exact h4'.2 i L hi
    · have hi2 := (List.getElem?_eq_some_iff.1 hi).1
      rw [List.length_append, List.length_singleton] at hi2
      obtain rfl : i = done.length := by omega
      rw [List.getElem?_append_right (Nat.le_refl _), Nat.sub_self] at hi
      obtain rfl : now = L := by simpa using hi
      obtain ⟨ao, c, hs⟩ := hnow.shape
      refine ⟨ao, c, ?_, ?_⟩
      · rw [List.getElem?_append_right (by rw [h4.1]; omega), h4.1, Nat.sub_self, ← h2, ← hs]; rfl
      · rw [← h2, ← hs]
        exact hnow.grown hg (fun a n c e => (hne a n c e).2.1)
  · have key : a.block < w.heap.size ∧ some a.block ≠ lv.ownBlock ∧ base ≤ a.block := by
      rcases List.mem_append.1 hu with hu | hu
      · exact ⟨(h5 u hu a n c e).1, (h5 u hu a n c e).2.1, (h5 u hu a n c e).2.2.2⟩
      · rw [List.mem_singleton.1 hu] at e; exact hne a n c e
    refine ⟨Nat.lt_of_lt_of_le key.1 hg.size, ?_, by show some a.block ≠ none; simp, key.2.2⟩
    rcases hb with hb | hb <;> rw [hb]
    · exact key.2.1
    · intro e; have := key.1; simp only [Option.some.injEq] at e; omega
def ObsF (w : World) (base : Nat) (v : Value) (n : Nat) (LL : List (List Opm)) : Prop :=
  n = LL.length ∧ n ≤ maxLen ∧ ∃ vs : List Value, w.ownsRow base 52 1 v n vs ∧ OpVals w vs LL ∧ ∀ u ∈ vs, ∀ a n c, u = .slice (some a) n c → base ≤ a.block ∧ a.block < w.heap.size ∧ some a.block ≠ v.ownBlock
def ReplayFrom (ps : List (List UInt8)) (w : World) (e : Ending) (w' : World) : Prop :=
  Below w.heap.size w w' ∧ ∃ LL u ao j c, play ps 0 [] [] 0 = (LL, u) ∧ u ≤ ps.length ∧ LL.length ≤ ps.length ∧ e = .returned (.tuple #[.slice ao j c, .int .i64 ((u : Nat) : Int)]) ∧ ObsF w' w.heap.size (.slice ao j c) j LL
def ReplayAt (ps : List (List UInt8)) (w wr : World) (lv nv : Value) (k j m u : Nat) (done : List (List Opm)) (now : List Opm) (vs : List Value) : Prop :=
  Batch wr w.heap.size lv nv j m done now vs ∧ Below w.heap.size w wr ∧ play ps 0 [] [] 0 = play (ps.drop k) k done now u ∧ u ≤ k ∧ j ≤ k ∧ m ≤ k ∧ k ≤ ps.length
theorem replay_stops {ps : List (List UInt8)} {w wr : World} {lv nv : Value} {k j m u : Nat} {done : List (List Opm)} {now : List Opm} {vs : List Value} (h : ReplayAt ps w wr lv nv k j m u done now vs) (hs : ps.drop k = [] ∨ ∃ p, ps[k]? = some p ∧ what p now.length = .stop) (hb : ps.length ≤ maxLen) (w' : World) (hg : Grow wr w') :
    ReplayFrom ps w (.returned (.tuple #[lv, .int .i64 (u : Int)])) w' := by
  obtain ⟨hB, hbel, hp, hu, hj, hm, hk⟩ := h
  have h1 : play (ps.drop k) k done now u = (done, u) := by
    rcases hs with hs | ⟨p, hp, hw⟩
    · rw [hs, play]
    · have hlt := (List.getElem?_eq_some_iff.1 hp).1
      have e : ps.drop k = p :: ps.drop (k + 1) := by
        rw [List.drop_eq_getElem_cons hlt]
        congr 1
        rw [List.getElem?_eq_getElem hlt] at hp
        exact Option.some.inj hp
      rw [e, play_stop hw]
  have hB' := hB.later hg
  obtain ⟨x1, x2, x3, x4, x5, _⟩ := hB'
  obtain ⟨ao, c, rfl⟩ := owns_shape x3
  exact ⟨hbel.trans (hg.mono hbel.size), done, u, ao, j, c, by rw [hp, h1], by omega, by omega, rfl, x1, by omega, vs, x3, x4, fun u hu a n c e => ⟨(x5 u hu a n c e).2.2.2, (x5 u hu a n c e).1, (x5 u hu a n c e).2.1⟩⟩
theorem drop_at {α : Type} {ps : List α} {k : Nat} {p : α} (hp : ps[k]? = some p) : ps.drop k = p :: ps.drop (k + 1) := by
  have hlt := (List.getElem?_eq_some_iff.1 hp).1
  rw [List.drop_eq_getElem_cons hlt]
  congr 1
  rw [List.getElem?_eq_getElem hlt] at hp
  exact Option.some.inj hp
theorem replay_op {ps : List (List UInt8)} {w wr w' : World} {lv nv nv' : Value} {k j m u : Nat} {done : List (List Opm)} {now : List Opm} {vs : List Value} {p : List UInt8} {o : Opm} (h : ReplayAt ps w wr lv nv k j m u done now vs) (hp : ps[k]? = some p) (hw : what p now.length = .op o)
    (hB : Batch w' w.heap.size lv nv' j (m + 1) done (now ++ [o]) vs) (hbel : Below w.heap.size w w') : ReplayAt ps w w' lv nv' (k + 1) j (m + 1) u done (now ++ [o]) vs := by
  obtain ⟨_, _, h3, h4, h5, h6, _⟩ := h
  refine ⟨hB, hbel, ?_, by omega, by omega, by omega, (List.getElem?_eq_some_iff.1 hp).1⟩
  rw [h3, drop_at hp, play_op hw]
theorem replay_done {ps : List (List UInt8)} {w wr w' : World} {lv lv' nv : Value} {k j m u : Nat} {done : List (List Opm)} {now : List Opm} {vs : List Value} {p : List UInt8} (h : ReplayAt ps w wr lv nv k j m u done now vs) (hp : ps[k]? = some p) (hw : what p now.length = .done)
    (hB : Batch w' w.heap.size lv' (.slice none 0 0) (j + 1) 0 (done ++ [now]) [] (vs ++ [nv])) (hbel : Below w.heap.size w w') : ReplayAt ps w w' lv' (.slice none 0 0) (k + 1) (j + 1) 0 (k + 1) (done ++ [now]) [] (vs ++ [nv]) := by
  obtain ⟨_, _, h3, h4, h5, h6, _⟩ := h
  refine ⟨hB, hbel, ?_, by omega, by omega, by omega, (List.getElem?_eq_some_iff.1 hp).1⟩
  rw [h3, drop_at hp, play_done hw]
theorem ov_one (o : Opm) : ∀ u ∈ ov o, u.oneCell' = true := by
  intro u hu
  simp only [ov, List.mem_cons, List.not_mem_nil, or_false] at hu
  rcases hu with rfl | rfl | rfl <;> rfl
end Go.Proofs.YthcdkggkoanjpaaGreatDoor
