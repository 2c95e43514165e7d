/- A new index; Len. Numbers and types by name. -/
import Derived.Test.YtkeahapgliljoaaIxo
namespace Go.Proofs.Ytkeahapgliljoaa
open Go.RowKit Go.Lib
set_option maxRecDepth 100000

theorem elemLst : Elem 45 54 (.slice none 0 0) 1 24 := ⟨Try.underlying45, by kernel_rfl, by decide, by decide⟩

theorem ix_new (n : Int) (w : World) : Calls Try.prog 8 #[.int .i64 n] w fun e w' => ∃ x F, e = .returned (theIx x) ∧ CI w' x [] F ∧ (∀ k ∈ F, w.heap.size ≤ k) ∧ Turn [] w w' := by
  obtain ⟨m, hm, h1, h2⟩ : ∃ m : Nat, min (max n 1) 1024 = (m : Int) ∧ 1 ≤ m ∧ m ≤ 1024 := ⟨(min (max n 1) 1024).toNat, by omega, by omega, by omega⟩
  obtain ⟨i0, hi, hz0, hz1, hz2⟩ := info_parts elemLst.info
  have HM := Lib.hid (And.intro h1 h2)
  clear h1 h2
  go_enter Try.func8, Try.ntmps8
  go_wp2_with (at_make; go_loud (refine wpList_make_full _ rfl (.tmp 5) (.tmp 5) _ rfl 0 54 i0 _ 1 Try.underlying45 hi hz0 hz1 .i64 .i64 (m : Int) (m : Int) m rfl rfl rfl rfl (by rw [hz2]; have := HM.out; omega) (by have := HM.out; unfold maxLen; omega) (Nat.zero_le _) ?_; intro w1 hown1 hg1; have H1 := Lib.hid (And.intro hown1 hg1); clear hown1 hg1))
  go_ret
  obtain ⟨hown1, hg1⟩ := H1.out
  have hsz := hg1.size
  have hsl : (madeCells (Value.slice none 0 0).cells (m * 1)).toList = List.replicate m (.slice none 0 0) := by
    rw [Nat.mul_one]
    exact toList_madeCells_one _ _
  rw [hsl] at hown1
  have hx : w1.heap.size = w1.heap.size := rfl
  have hv : ∀ (i : Nat) (v : Value), (List.replicate m (Value.slice none 0 0))[i]? = some v → v = .slice none 0 0 := fun i v h => List.eq_of_mem_replicate (List.mem_of_getElem? h)
  have hlt := (hown1.lt w.heap.size rfl).2
  refine ⟨w1.heap.size, _, rfl, ⟨w.heap.size, m, List.replicate m (.slice none 0 0), List.replicate m [], ?_, Split.nil m, rfl⟩, fun k hk => ?_, (Turn.of_none hg1).alloc _⟩
  · refine { cell := by simp, tbl := hown1.alloc _, pos := HM.out.1, top := HM.out.2, ent := fun i v E h1 h2 => ?_, xb := by omega, low := fun i v k h1 h2 => ?_, apart := fun i j v u k h1 h2 h3 h4 => ?_ }
    · rw [hv i v h1, List.eq_of_mem_replicate (List.mem_of_getElem? h2)]
      exact ⟨0, rfl, World.ownsRow_nil _ _ _ _⟩
    · rw [hv i v h1] at h2; cases h2
    · rw [hv i v h1] at h3; cases h3
  · rcases mem_foots.1 hk with rfl | rfl | ⟨i, v, h1, h2⟩
    · exact hsz
    · exact Nat.le_refl _
    · rw [hv i v h1] at h2; cases h2

theorem flat_next {Es : List (List Prm)} {k : Nat} {E : List Prm} (h : Es[k]? = some E) : (Es.take (k + 1)).flatten = (Es.take k).flatten ++ E := by
  rw [take_next h, List.flatten_append]
  simp
theorem flat_le (Es : List (List Prm)) (k : Nat) : (Es.take k).flatten.length ≤ Es.flatten.length := by
  conv => rhs; rw [← List.take_append_drop k Es, List.flatten_append, List.length_append]
  exact Nat.le_add_right _ _

set_option maxHeartbeats 1000000 in
theorem ix_len {w : World} {x : Nat} {L : List Prm} {F : List Nat} (h : CI w x L F) (hf : Fine L) :
    Calls Try.prog 14 #[theIx x] w fun e w' => e = .returned (.int .i64 (L.length : Int)) ∧ w = w' := by
  obtain ⟨b, m, sl, Es, hX, hS, rfl⟩ := h
  have hp := (hS.perm hX.pos hf.rise).length_eq
  have hL := hf.len
  have hc := hX.cell
  have hmt := hX.top
  have HX := Lib.hid (And.intro hX (And.intro hS (And.intro hp hL)))
  clear hX hS hp hL hf
  unfold theIx
  go_enter Try.func14, Try.ntmps14
  go_wp2_with fail
  go_loopw [3, 13] (fun s i wr => ∃ k A : Nat, k ≤ m ∧ i = .int .i64 k ∧ s = .int .i64 A ∧ Hid (A = (Es.take k).flatten.length) ∧ w = wr)
    (fun _ i _ => m - (RowKit.intOf i).toNat)
  case atStart => exact ⟨0, 0, Nat.zero_le _, rfl, rfl, Lib.hid rfl, rfl⟩
  case round =>
    obtain ⟨k, A, hk, rfl, rfl, hA, rfl⟩ := hrel
    by_cases hlt : k < m
    · have h3 : (k : Int) < (m : Int) := by omega
      obtain ⟨v, hv⟩ : ∃ v, sl[k]? = some v := ⟨_, List.getElem?_eq_getElem (by rw [HX.out.1.slen]; exact hlt)⟩
      obtain ⟨E, hE⟩ : ∃ E, Es[k]? = some E := ⟨_, List.getElem?_eq_getElem (by rw [HX.out.2.1.len]; exact hlt)⟩
      obtain ⟨n, hn⟩ := HX.out.1.ent k v E hv hE
      obtain ⟨ao, c, rfl⟩ := hn.shape
      have hcell := HX.out.1.tbl.cell hv
      have hsum : A + n = (Es.take (k + 1)).flatten.length := by rw [flat_next hE, List.length_append, hA.out, hn.1]
      have hle := flat_le Es (k + 1)
      have hwr : wrap64 ((A : Int) + (n : Int)) = ((A + n : Nat) : Int) := by have := HX.out.2.2; unfold wrap64; omega
      have HS := Lib.hid hsum
      clear hv hE hn hsum hle
      go_wp2_with fail
      exact ⟨⟨k + 1, A + n, by omega, by go_num, by go_num, HS, trivial⟩, by simp [RowKit.intOf]; omega⟩
    · have h3 : ¬ (k : Int) < (m : Int) := by omega
      obtain rfl : k = m := by omega
      go_wp2_with fail
      go_ret
      have e := hA.out
      rw [List.take_of_length_le (by have := HX.out.2.1.len; omega), HX.out.2.2.1] at e
      exact ⟨by rw [← e]; rfl, rfl⟩

end Go.Proofs.Ytkeahapgliljoaa
