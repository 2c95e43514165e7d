/- The reference's Digits. Numbers and types by name. -/
import Derived.Test.YtlgfijjkbomejaaGreatDoorTxt
namespace Go.Proofs.YtlgfijjkbomejaaGreatDoor
open Go.RowKit Go.Lib

/-- A number's digits. -/
def digs (n : Nat) : List UInt8 := if n < 10 then [UInt8.ofNat (48 + n)] else digs (n / 10) ++ [UInt8.ofNat (48 + n % 10)]
termination_by n
decreasing_by omega

theorem digs_small {n : Nat} (h : n < 10) : digs n = [UInt8.ofNat (48 + n)] := by rw [digs, if_pos h]
theorem digs_more {n : Nat} (h : ¬ n < 10) : digs n = digs (n / 10) ++ [UInt8.ofNat (48 + n % 10)] := by rw [digs, if_neg h]

/-- How long they are. -/
theorem digs_length (k : Nat) : ∀ n : Nat, n < 10 ^ (k + 1) → (digs n).length ≤ k + 1 := by
  induction k with
  | zero => intro n h; rw [digs_small (by omega)]; simp
  | succ k ih =>
    intro n h
    by_cases h10 : n < 10
    · rw [digs_small h10]; simp
    · rw [digs_more h10, List.length_append]
      have := ih (n / 10) (by rw [Nat.pow_succ] at h; omega)
      simp; omega

def txt (l : List UInt8) : ByteArray := ⟨l.toArray⟩

theorem conv_lit (w : World) (x : UInt8) (z : Int) (hz : z = (x.toNat : Int)) (fr : Nat × Nat) : (convert 45 9 (.slice (some ⟨w.heap.size, 0, none⟩) 1 1)).run Tryz.prog (w.alloc (.cells #[.int .u8 z] 5 fr)) = .ok (.string (txt [x])) (w.alloc (.cells #[.int .u8 z] 5 fr)) := by
  subst hz
  exact conv_reads (l := [x]) (Reads.lit w (bv [x]) 5 fr 1 rfl)

theorem digits_ref (n : Nat) (w : World) (hn : n < 1000000000) :
    Calls Tryz.prog 52 #[.int .i64 (n : Int)] w fun e w' => e = .returned (.string (txt (digs n))) ∧ Below w.heap.size w w' := by
  have h0 : ¬ (n : Int) < 0 := by omega
  go_enter Tryz.func52, Tryz.ntmps52
  go_wp2_with fail
  go_loopw [3, 4] (fun uv sv wr => ∃ (u : Nat) (s : List UInt8), uv = .int .u64 u ∧ sv = .string (txt s) ∧ u ≤ n ∧ Hid (digs n = digs u ++ s ∧ s.length + u ≤ n ∧ Below w.heap.size w wr))
    (fun uv _ _ => (intOf uv).toNat)
  case atStart => exact ⟨n, [], rfl, rfl, Nat.le_refl _, Lib.hid ⟨by simp, by simp, Below.refl _ _⟩⟩
  case round =>
    obtain ⟨u, s, rfl, rfl, hu, hrel⟩ := hrel
    have HU := Lib.hid (And.intro hu hn)
    clear hu hn
    have happ : ∀ x : UInt8, txt [x] ++ txt s = txt (x :: s) := fun x => by
      apply Go.WideShapes.bytes_inj
      simp [txt, ByteArray.data_append]
    by_cases hlt : u < 10
    · have h3 : ¬ (10 : Int) ≤ (u : Int) := by omega
      obtain ⟨x, hx⟩ : ∃ x, x = UInt8.ofNat (48 + u) := ⟨_, rfl⟩
      have hx2 : (48 : Int) + (u : Int) = (x.toNat : Int) := by rw [hx, UInt8.toNat_ofNat']; omega
      have hsz : ¬ 9223372036854775807 < (txt [x]).size + (txt s).size := by
        have h1 := hrel.out.2.1
        have h2 := HU.out
        have e1 : (txt [x]).size = 1 := rfl
        have e2 : (txt s).size = s.length := by simp [txt, ByteArray.size]
        omega
      have HX := Lib.hid hx
      have HA := Lib.hid (happ x)
      have hxl := x.toNat_lt
      clear hx happ
      have cv := fun w fr => conv_lit w x _ rfl fr
      go_wp2_with fail
      go_ret
      rw [HA.out, hrel.out.1, digs_small hlt, ← HX.out]
      exact ⟨rfl, hrel.out.2.2.alloc (by exact hrel.out.2.2.size) _⟩
    · have h3 : (10 : Int) ≤ (u : Int) := by omega
      obtain ⟨x, hx⟩ : ∃ x, x = UInt8.ofNat (48 + u % 10) := ⟨_, rfl⟩
      have hx2 : (48 : Int) + (u : Int) % 10 = (x.toNat : Int) := by rw [hx, UInt8.toNat_ofNat']; omega
      have hsz : ¬ 9223372036854775807 < (txt [x]).size + (txt s).size := by
        have h1 := hrel.out.2.1
        have h2 := HU.out
        have e1 : (txt [x]).size = 1 := rfl
        have e2 : (txt s).size = s.length := by simp [txt, ByteArray.size]
        omega
      have hu9 : u ≤ 1000000000 := by have := HU.out; omega
      have HX := Lib.hid hx
      have HA := Lib.hid (happ x)
      have hxl := x.toNat_lt
      clear hx happ
      have cv := fun w fr => conv_lit w x _ rfl fr
      go_wp2_with fail
      refine ⟨⟨u / 10, x :: s, by simp, by rw [HA.out], by have := HU.out; omega, Lib.hid ⟨?_, ?_, hrel.out.2.2.alloc (by exact hrel.out.2.2.size) _⟩⟩, by simp only [intOf]; omega⟩
      · rw [hrel.out.1, digs_more hlt, ← HX.out]; simp
      · have := hrel.out.2.1; simp; omega

end Go.Proofs.YtlgfijjkbomejaaGreatDoor
