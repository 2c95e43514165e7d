/- ParseDeep, walked over what is asked of the code's parser. Numbers and types by name. -/
import Derived.Test.YtfcfbdemfbkgmaaDoorQpt
import Derived.Test.YtfcfbdemfbkgmaaDoorPam
/- The document's example in stage 12's laws: labels a < b < c. Numbers and types by name. -/
namespace Go.Proofs.YtfcfbdemfbkgmaaDoor
open Go.RowKit Go.Lib
set_option maxRecDepth 100000

def labEx : List UInt8 := [108, 97, 98, 101, 108, 115, 32, 97, 32, 60, 32, 98, 32, 60, 32, 99, 59]
theorem lab_ex : labelsP labEx = ([⟨[97], [98], 11⟩, ⟨[98], [99], 15⟩], 0, 0) := by decide +kernel

theorem awake_par (K : ParseK) (w : World) (ht : SgW w) : Calls Tryd.prog 5 #[] w fun e w' => e = .returned (.bool true) ∧ Below w.heap.size w w' := by
  have P := K.lab labEx w ht
  clear ht
  rw [lab_ex] at P
  change Calls _ _ #[.string ⟨#[108, 97, 98, 101, 108, 115, 32, 97, 32, 60, 32, 98, 32, 60, 32, 99, 59]⟩] _ _ at P
  go_enter Tryd.func5, Tryd.ntmps5
  go_wp2_with fail
  refine P.mono ?_
  rintro e w1 ⟨ao, m, c, rfl, hT, hb⟩
  have H := Lib.hid hb
  obtain rfl : m = 2 := hT.1
  obtain ⟨_, _, _, cs, ⟨ao', cap, e, _, _, hz, hat⟩, c1, d1, rfl, _, rfl, c2, d2, rfl, _, rfl, rfl⟩ := hT
  cases e
  obtain ⟨a, rfl⟩ : ∃ a, ao = some a := by
    cases ao with
    | none => exact absurd (hz rfl).1 (by simp)
    | some a => exact ⟨a, rfl⟩
  have d1 : w1.cell? ⟨a.block, a.off + 3, none⟩ = some (.string ⟨#[98]⟩) := hat a rfl 3 _ rfl
  have d2 : w1.cell? ⟨a.block, a.off + 3 + 1, none⟩ = some (.string ⟨#[99]⟩) := hat a rfl 4 _ rfl
  clear hb hz hat P
  go_wp2_with (go_at_call 8; refine (lnum_at _ _).mono ?_; rintro e w' ⟨rfl, rfl⟩)
  go_ret
  exact ⟨rfl, H.out⟩

end Go.Proofs.YtfcfbdemfbkgmaaDoor

/- Texts of ParseDeep: so deep and no deeper, told by the model. -/
namespace Go.Proofs.YtfcfbdemfbkgmaaDoor
open Go.RowKit Go.Lib
set_option maxRecDepth 100000

def deepB : List UInt8 := [109, 111, 100, 117, 108, 101, 32, 109, 32, 59, 32, 112, 114, 111, 99, 32, 112, 32, 40, 32, 41, 32, 112, 99, 32, 97, 32, 117, 115, 101, 115, 32, 123, 32, 125, 32, 123]
def deepA : List UInt8 := deepB ++ [32, 114, 101, 115, 117, 108, 116, 32, 61]
def ahead (m : Nat) : List UInt8 := if m = 0 then [40] else if m = 1 then [45] else [33]
def behind (m : Nat) : List UInt8 := if m = 0 then [41] else []
def rep (k : Nat) (x : List UInt8) : List UInt8 := (List.replicate k x).flatten
theorem rep_succ (k : Nat) (x : List UInt8) : rep (k + 1) x = rep k x ++ x := by
  unfold rep
  rw [List.replicate_succ', List.flatten_append]
  simp
def deepS (k m : Nat) : List UInt8 := deepA ++ rep k (32 :: ahead m) ++ [32, 49] ++ rep k (32 :: behind m) ++ [32, 59, 32, 125]
def deepT (k : Nat) : List UInt8 := deepB ++ rep k [32, 119, 104, 105, 108, 101, 32, 49, 32, 123] ++ rep k [32, 125] ++ [32, 125]
theorem deepS_few : ∀ m : Fin 3, ∀ k : Fin 40, (parseP (deepS k m)).2.1 = 0 := by decide +kernel
theorem deepS_deep : ∀ m : Fin 3, ∀ k : Fin 21, (parseP (deepS (40 + k) m)).2.1 = 12 ∧ (parseP (deepS (40 + k) m)).2.2 = 125 := by decide +kernel
theorem deepT_few : ∀ k : Fin 40, (parseP (deepT k)).2.1 = 0 := by decide +kernel
theorem deepT_deep : ∀ k : Fin 21, (parseP (deepT (40 + k))).2.1 = 12 ∧ (parseP (deepT (40 + k))).2.2 = 436 := by decide +kernel

end Go.Proofs.YtfcfbdemfbkgmaaDoor

namespace Go.Proofs.YtfcfbdemfbkgmaaDoor
open Go.RowKit Go.Lib
set_option maxRecDepth 100000

theorem tx_cat (a b : List UInt8) : tx a ++ tx b = tx (a ++ b) := by
  unfold tx
  apply ByteArray.ext
  simp
theorem rep_len (k : Nat) (x : List UInt8) : (rep k x).length = k * x.length := by
  unfold rep
  simp
theorem ahead_len (m : Nat) : (ahead m).length = 1 := by
  unfold ahead
  split
  · rfl
  · split <;> rfl
theorem behind_len (m : Nat) : (behind m).length = if m = 0 then 1 else 0 := by
  unfold behind
  split <;> rfl
def SA (m i : Nat) : List UInt8 := deepA ++ rep i (32 :: ahead m)
def SB (m k i : Nat) : List UInt8 := deepA ++ rep k (32 :: ahead m) ++ [32, 49] ++ rep i (32 :: behind m)
def SC (i : Nat) : List UInt8 := deepB ++ rep i [32, 119, 104, 105, 108, 101, 32, 49, 32, 123]
def SD (k i : Nat) : List UInt8 := deepB ++ rep k [32, 119, 104, 105, 108, 101, 32, 49, 32, 123] ++ rep i [32, 125]
theorem sa_more (m i : Nat) : tx (SA m i) ++ ⟨#[32]⟩ ++ tx (ahead m) = tx (SA m (i + 1)) := by
  rw [show (⟨#[32]⟩ : ByteArray) = tx [32] from rfl, tx_cat, tx_cat]
  unfold SA
  rw [rep_succ]
  simp
theorem sa_size (m i : Nat) : (tx (SA m i)).size = 46 + 2 * i := by
  rw [tx_size]
  unfold SA
  rw [List.length_append, rep_len, List.length_cons, ahead_len, show deepA.length = 46 from rfl]
  omega
theorem sb_zero (m k : Nat) : tx (SA m k) ++ ⟨#[32, 49]⟩ = tx (SB m k 0) := by
  rw [show (⟨#[32, 49]⟩ : ByteArray) = tx [32, 49] from rfl, tx_cat]
  unfold SA SB rep
  simp
theorem sb_more (m k i : Nat) : tx (SB m k i) ++ ⟨#[32]⟩ ++ tx (behind m) = tx (SB m k (i + 1)) := by
  rw [show (⟨#[32]⟩ : ByteArray) = tx [32] from rfl, tx_cat, tx_cat]
  unfold SB
  rw [rep_succ]
  simp
theorem sb_size (m k i : Nat) : (tx (SB m k i)).size = 48 + 2 * k + i * ((behind m).length + 1) := by
  rw [tx_size]
  unfold SB
  simp only [List.length_append, rep_len, List.length_cons, ahead_len, show deepA.length = 46 from rfl, List.length_nil]
  omega
theorem sb_last (m k : Nat) : tx (SB m k k) ++ ⟨#[32, 59, 32, 125]⟩ = tx (deepS k m) := by
  rw [show (⟨#[32, 59, 32, 125]⟩ : ByteArray) = tx [32, 59, 32, 125] from rfl, tx_cat]
  rfl
theorem sc_more (i : Nat) : tx (SC i) ++ ⟨#[32, 119, 104, 105, 108, 101, 32, 49, 32, 123]⟩ = tx (SC (i + 1)) := by
  rw [show (⟨#[32, 119, 104, 105, 108, 101, 32, 49, 32, 123]⟩ : ByteArray) = tx [32, 119, 104, 105, 108, 101, 32, 49, 32, 123] from rfl, tx_cat]
  unfold SC
  rw [rep_succ]
  simp
theorem sc_size (i : Nat) : (tx (SC i)).size = 37 + 10 * i := by
  rw [tx_size]
  unfold SC
  rw [List.length_append, rep_len, show deepB.length = 37 from rfl]
  simp
  omega
theorem sd_zero (k : Nat) : tx (SC k) = tx (SD k 0) := by
  unfold SC SD rep
  simp
theorem sd_more (k i : Nat) : tx (SD k i) ++ ⟨#[32, 125]⟩ = tx (SD k (i + 1)) := by
  rw [show (⟨#[32, 125]⟩ : ByteArray) = tx [32, 125] from rfl, tx_cat]
  unfold SD
  rw [rep_succ]
  simp
theorem sd_size (k i : Nat) : (tx (SD k i)).size = 37 + 10 * k + 2 * i := by
  rw [tx_size]
  unfold SD
  simp only [List.length_append, rep_len, show deepB.length = 37 from rfl, List.length_cons, List.length_nil]
  omega
theorem sd_last (k : Nat) : tx (SD k k) ++ ⟨#[32, 125]⟩ = tx (deepT k) := by
  rw [show (⟨#[32, 125]⟩ : ByteArray) = tx [32, 125] from rfl, tx_cat]
  rfl
def aheadA : Array Value := #[.string ⟨#[40]⟩, .string ⟨#[45]⟩, .string ⟨#[33]⟩]
def behindA : Array Value := #[.string ⟨#[41]⟩, .string ⟨#[]⟩, .string ⟨#[]⟩]
theorem aheadA_at (m : Nat) (h : m < 3) : aheadA[m]? = some (.string (tx (ahead m))) := by
  match m, h with
  | 0, _ => rfl
  | 1, _ => rfl
  | 2, _ => rfl
theorem behindA_at (m : Nat) (h : m < 3) : behindA[m]? = some (.string (tx (behind m))) := by
  match m, h with
  | 0, _ => rfl
  | 1, _ => rfl
  | 2, _ => rfl

theorem u8_at (z : Int) (h : 0 ≤ z ∧ z ≤ 255) : ∃ n : UInt8, z = (n.toNat : Int) := ⟨UInt8.ofNat z.toNat, by rw [UInt8.toNat_ofNat']; omega⟩
end Go.Proofs.YtfcfbdemfbkgmaaDoor
