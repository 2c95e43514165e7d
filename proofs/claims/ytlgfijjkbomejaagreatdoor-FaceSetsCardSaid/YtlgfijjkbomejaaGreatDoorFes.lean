/- FaceSets, walked. Numbers and types by name. -/
import Derived.Test.YtlgfijjkbomejaaGreatDoorFem
import Derived.Test.YtlgfijjkbomejaaGreatDoorCen
import Derived.Test.YtlgfijjkbomejaaGreatDoorCdc
import Derived.Test.YtlgfijjkbomejaaGreatDoorQph
import Derived.Test.YtlgfijjkbomejaaGreatDoorMvs
import Derived.Test.YtlgfijjkbomejaaGreatDoorQpt
/- The bytes of a Face that shows nothing. Numbers and types by name. -/
namespace Go.Proofs.YtlgfijjkbomejaaGreatDoor
open Go.RowKit Go.Lib Go.Sort
set_option maxRecDepth 100000

def encE : List UInt8 := [0, 0, 0, 1, 0, 0, 0, 1, 48]
theorem enc_one : enc [txt [48]] = encE := by decide +kernel
set_option maxHeartbeats 4000000 in
theorem enc_empty (w : World) (ht : Tab w) : Calls Tryz.prog 18 #[.agg #[.slice none 0 0, .slice none 0 0]] w
    fun e w' => ∃ ao c, e = .returned (.slice ao 9 c) ∧ Bs w' w.heap.size (.slice ao 9 c) 9 encE ∧ Grow w w' := by
  obtain ⟨w1, hw1⟩ : ∃ w1, w.alloc (.cells #[.slice none 0 0, .slice none 0 0] 32) = w1 := ⟨_, rfl⟩
  have hg1 : Grow w w1 := by rw [← hw1]; exact (Below.refl _ w).alloc (Nat.le_refl _) _
  have hb1 : w1.heap[w.heap.size]? = some (.cells #[.slice none 0 0, .slice none 0 0] 32) := by rw [← hw1]; exact heap_alloc_new _ _
  have a0 : w1.cell? ⟨w.heap.size, 0, none⟩ = some (.slice none 0 0) := cellsN hb1 0 _ rfl
  have a1 : w1.cell? ⟨w.heap.size, 1, none⟩ = some (.slice none 0 0) := cellsN hb1 1 _ rfl
  have P1 := itoa_any 0 w1 (by decide) (ht.later hg1)
  rw [show digs 0 = [48] from by rw [digs_small (by decide)]; rfl] at P1
  have HB := Lib.hid (And.intro hg1 hb1)
  have hlt0 : ¬ (0 : Int) < 0 := by omega
  clear hg1 hb1
  go_enter Tryz.func18, Tryz.ntmps18
  go_upto_region 2 with (go_at_call 48; refine P1.mono ?_; rintro e w2 ⟨rfl, hg2⟩; have HG2 : Hid (Grow w1 w2) := Lib.hid hg2; clear hg2)
  clear hw1 a0 a1 P1
  obtain ⟨w3, hw3⟩ : ∃ w3, w2.alloc (.cells #[.string (txt [48])] 9) = w3 := ⟨_, rfl⟩
  have hg3 : Grow w2 w3 := by rw [← hw3]; exact (Below.refl _ w2).alloc (Nat.le_refl _) _
  have hT : Texts w3 (.slice (some ⟨w2.heap.size, 0, none⟩) 1 1) 1 [txt [48]] := by rw [← hw3]; exact Texts.lit w2 [txt [48]] (0, 0) 1 rfl (by decide) (by simp [txt]; decide)
  have hb3 := ((Grow.trans HG2.out hg3).block _ (Array.getElem?_eq_some_iff.1 HB.out.2).1).trans HB.out.2
  have f0 : w3.cell? ⟨w.heap.size, 0, none⟩ = some (.slice none 0 0) := cellsN hb3 0 _ rfl
  have f1 : w3.cell? ⟨w.heap.size, 1, none⟩ = some (.slice none 0 0) := cellsN hb3 1 _ rfl
  have P2 := encode_any _ 1 _ w3 hT (by decide)
  rw [enc_one, show encE.length = 9 from rfl] at P2
  have HG3 : Hid (Grow w w3) := Lib.hid (Grow.trans HB.out.1 (Grow.trans HG2.out hg3))
  clear hb3 hg3 hT
  try rw [hw3]
  go_wp2_with fail
  clear hw3
  go_loopw [3, 16] (fun s3 i wr => s3 = .slice (some ⟨w2.heap.size, 0, none⟩) 1 1 ∧ i = .int .i64 0 ∧ w3 = wr) (fun _ _ _ => 0)
  case atStart => exact ⟨rfl, rfl, rfl⟩
  case round =>
    obtain ⟨rfl, rfl, rfl⟩ := hrel
    go_wp2_with fail
    go_loopw [3, 31] (fun s3 i wr => s3 = .slice (some ⟨w2.heap.size, 0, none⟩) 1 1 ∧ i = .int .i64 0 ∧ w3 = wr) (fun _ _ _ => 0)
    case atStart => exact ⟨rfl, rfl, rfl⟩
    case round =>
      obtain ⟨rfl, rfl, rfl⟩ := hrel
      go_wp2_with (go_at_call 51; refine P2.mono ?_; rintro e w4 ⟨ao, c, rfl, ho, hg⟩; have H4 := Lib.hid (And.intro ho hg); clear ho hg)
      go_ret
      exact ⟨ao, c, rfl, H4.out.1.base (by have := HG3.out.size; omega), Grow.trans HG3.out H4.out.2⟩

end Go.Proofs.YtlgfijjkbomejaaGreatDoor

/- The Face of nine bytes. Numbers and types by name. -/
namespace Go.Proofs.YtlgfijjkbomejaaGreatDoor
open Go.RowKit Go.Lib Go.Sort
set_option maxRecDepth 100000

theorem dec_one : dec encE = some [txt [48]] := by rw [← enc_one]; exact dec_enc _ (by decide)
/-- The one text that there is, taken. -/
theorem text_zero (b c : Nat) (a : Addr) (w : World) (hb : w.heap[b]? = some (.cells #[.slice (some a) 1 c, .bool false] 97)) (ha : w.cell? a = some (.string (txt [48]))) (ha0 : w.cell? (a.add 0) = some (.string (txt [48]))) (hc : 1 ≤ c) :
    Calls Tryz.prog 87 #[.pointer (some ⟨b, 0, none⟩)] w fun e w' => e = .returned (.string (txt [48])) ∧ ∃ a' c', w' = w.setCell ⟨b, 0, none⟩ (.slice a' 0 c') := by
  have c0 : w.cell? ⟨b, 0, none⟩ = some (.slice (some a) 1 c) := cellsN hb 0 _ rfl
  have f0 := frozen_of_row w b 0 _ _ hb
  go_enter Tryz.func87, Tryz.ntmps87
  go_wp2_with fail
  all_goals (go_ret; exact ⟨rfl, _, _, rfl⟩)

theorem Tab.chg {w w' : World} (h : Tab w) {b : Nat} {v1 v2 : Value} (hb : w.heap[b]? = some (.cells #[v1, v2] 97)) (hc : Chg [b] w w') : Tab w' := by
  unfold Tab Lib.TabIs World.var? at *
  generalize Tryz.prog.globalNamed "internal/strconv.uint64pow10" = og at *
  cases og with
  | none => cases h
  | some g =>
    simp only [Option.bind_some] at h ⊢
    cases hx : w.heap[g]? with
    | none => rw [hx] at h; cases h
    | some o =>
      have hlt : g < w.heap.size := (Array.getElem?_eq_some_iff.1 hx).1
      by_cases e : g = b
      · subst e
        exfalso
        rw [hb] at h
        have h2 : 2 = Lib.pow10Tab.length := by
          have := congrArg (fun x => (Option.map Array.size x).getD 0) h
          simpa using this
        exact absurd h2 (by decide)
      · rw [hc.block g hlt (by simp [e])]
        exact h

set_option maxHeartbeats 4000000 in
/-- None follows. -/
theorem count_zero (b c : Nat) (a : Addr) (w : World) (hb : w.heap[b]? = some (.cells #[.slice (some a) 1 c, .bool false] 97)) (ha : w.cell? a = some (.string (txt [48]))) (ha0 : w.cell? (a.add 0) = some (.string (txt [48]))) (hc : 1 ≤ c) (ht : Tab w) :
    Calls Tryz.prog 86 #[.pointer (some ⟨b, 0, none⟩)] w fun e w' => e = .returned (.int .i64 0) ∧ ∃ a' c', w'.heap[b]? = some (.cells #[.slice a' 0 c', .bool false] 97) ∧ Chg [b] w w' := by
  have P1 := text_zero b c a w hb ha ha0 hc
  have HB := Lib.hid (And.intro hb ht)
  clear ha ha0 hc ht hb
  go_enter Tryz.func86, Tryz.ntmps86
  go_wp2_with fail
  refine P1.mono ?_
  rintro e w1 ⟨rfl, a', c', hw1⟩
  have hb1 : w1.heap[b]? = some (.cells #[.slice a' 0 c', .bool false] 97) := by rw [hw1]; exact heap_setCell_same _ _ _ _ _ _ HB.out.1
  have hc1 : Chg [b] w w1 := by rw [hw1]; exact (Chg.refl [b] w).set (.inl (by simp)) 0 _
  have ht1 := HB.out.2.chg HB.out.1 hc1
  have H1 := Lib.hid (And.intro hb1 (And.intro hc1 ht1))
  clear hw1 P1 hb1 hc1 ht1
  go_wp2_with fail
  refine (Tryz.strconv_Atoi (txt [48]) 0 (by decide) (by decide) w1).mono ?_
  rintro e2 w2 ⟨rfl, q, hw⟩
  have hc2 : Chg [] w1 w2 := by
    rw [hw]
    refine Chg.of_below ⟨?_, ?_, ?_, ?_, fun k hk => Lib.bytesWorld_at_old w1 _ _ k hk⟩
    · unfold Lib.bytesWorld World.freeze; split <;> rfl
    · unfold Lib.bytesWorld World.freeze; split <;> rfl
    · unfold Lib.bytesWorld World.freeze; split <;> rfl
    · rw [Lib.bytesWorld_size]; exact Nat.le_succ _
  have hb2 := (hc2.block b (Array.getElem?_eq_some_iff.1 H1.out.1).1 (by simp)).trans H1.out.1
  have hg2 : Grow w1 w2 := hc2.below (Nat.le_refl _) (fun x hx => by cases hx)
  have P3 := itoa_any 0 w2 (by decide) (H1.out.2.2.later hg2)
  rw [show digs 0 = [48] from by rw [digs_small (by decide)]; rfl] at P3
  have H2 := Lib.hid (And.intro hb2 hg2)
  clear hw hc2 hb2 hg2
  go_wp2_with (go_at_call 48; refine P3.mono ?_; rintro e w3 ⟨rfl, hg3⟩; have hb3 := (hg3.block b (Array.getElem?_eq_some_iff.1 H2.out.1).1).trans H2.out.1; have r0 : w3.cell? ⟨b, 0, none⟩ = some (.slice a' 0 c') := cellsN hb3 0 _ rfl; have H3 := Lib.hid (And.intro hb3 hg3); clear hb3 hg3)
  go_ret
  exact ⟨rfl, a', c', H3.out.1, H1.out.2.1.trans' (Chg.of_below (F := []) (Grow.trans H2.out.2 H3.out.2)) (fun x hx => by cases hx)⟩

theorem two_new2 (w : World) (o1 o2 : Obj) : Grow w ((w.alloc o1).alloc o2) ∧ ((w.alloc o1).alloc o2).heap[w.heap.size]? = some o1 ∧ ((w.alloc o1).alloc o2).heap[w.heap.size + 1]? = some o2 := by
  have g1 : Grow w (w.alloc o1) := (Below.refl _ w).alloc (Nat.le_refl _) _
  have g2 : Grow (w.alloc o1) ((w.alloc o1).alloc o2) := (Below.refl _ _).alloc (Nat.le_refl _) _
  have s1 : (w.alloc o1).heap.size = w.heap.size + 1 := by simp
  have n1 := heap_alloc_new w o1
  have n2 := heap_alloc_new (w.alloc o1) o2
  rw [s1] at n2
  exact ⟨Grow.trans g1 g2, (g2.block _ (by omega)).trans n1, n2⟩
set_option maxHeartbeats 4000000 in
theorem face_zero (b c : Nat) (a : Addr) (w : World) (hb : w.heap[b]? = some (.cells #[.slice (some a) 1 c, .bool false] 97)) (ha : w.cell? a = some (.string (txt [48]))) (ha0 : w.cell? (a.add 0) = some (.string (txt [48]))) (hc : 1 ≤ c) (ht : Tab w) :
    Calls Tryz.prog 41 #[.pointer (some ⟨b, 0, none⟩)] w fun e w' => e = .returned (.agg #[.slice none 0 0, .slice none 0 0]) ∧ ∃ a' c', w'.heap[b]? = some (.cells #[.slice a' 0 c', .bool false] 97) ∧ Chg [b] w w' := by
  obtain ⟨w1, hw1⟩ : ∃ w1, (w.alloc (.cells #[.slice none 0 0, .slice none 0 0] 32)).alloc (.cells #[.slice none 0 0, .slice none 0 0] 32) = w1 := ⟨_, rfl⟩
  obtain ⟨hg1, hr, hf⟩ := two_new2 w (.cells #[.slice none 0 0, .slice none 0 0] 32) (.cells #[.slice none 0 0, .slice none 0 0] 32)
  rw [hw1] at hg1 hr hf
  have hlt := (Array.getElem?_eq_some_iff.1 hb).1
  have P1 := count_zero b c a w1 ((hg1.block b hlt).trans hb) (cell_low hg1 ha) (cell_low hg1 ha0) hc (ht.later hg1)
  have HB := Lib.hid (And.intro hg1 (And.intro hr (And.intro hf hlt)))
  have hlt0 : ¬ (0 : Int) < 0 := by omega
  clear hb ha ha0 hc ht hg1 hr hf hlt
  obtain ⟨F, hF⟩ : ∃ F, w.heap.size + 1 = F := ⟨_, rfl⟩
  rw [hF] at HB
  go_enter Tryz.func41, Tryz.ntmps41
  go_upto_region 3 with (go_at_call 86; refine P1.mono ?_; rintro e w2 ⟨rfl, a', c', hb2, hc2⟩; have H2 := Lib.hid (And.intro hb2 hc2); clear hb2 hc2)
  have HFD := Lib.hid hF
  clear hw1 P1 hF
  have hr2 := (H2.out.2.block _ (Array.getElem?_eq_some_iff.1 HB.out.2.1).1 (by have := HB.out.2.2.2; simp; omega)).trans HB.out.2.1
  have hf2 := (H2.out.2.block _ (Array.getElem?_eq_some_iff.1 HB.out.2.2.1).1 (by have := HB.out.2.2.2; have := HFD.out; simp; omega)).trans HB.out.2.2.1
  obtain ⟨R, hR⟩ : ∃ R, w.heap.size = R := ⟨_, rfl⟩
  have HE : Hid (w2.heap[R]? = some (.cells #[.slice none 0 0, .slice none 0 0] 32) ∧ w.heap.size = R ∧ b < R) := Lib.hid ⟨by rw [← hR]; exact hr2, hR, by have := HB.out.2.2.2; omega⟩
  rw [hR] at hr2
  have b0 : w2.cell? ⟨b, 0, none⟩ = some (.slice a' 0 c') := cellsN H2.out.1 0 _ rfl
  have b1 : w2.cell? ⟨b, 1, none⟩ = some (.bool false) := cellsN H2.out.1 1 _ rfl
  have f0 : w2.cell? ⟨F, 0, none⟩ = some (.slice none 0 0) := cellsN hf2 0 _ rfl
  have f1 : w2.cell? ⟨F, 1, none⟩ = some (.slice none 0 0) := cellsN hf2 1 _ rfl
  have r0 : w2.cell? ⟨R, 0, none⟩ = some (.slice none 0 0) := cellsN hr2 0 _ rfl
  have r1 : w2.cell? ⟨R, 1, none⟩ = some (.slice none 0 0) := cellsN hr2 1 _ rfl
  have fr0 := frozen_of_row w2 R 0 _ _ hr2
  have fr1 := frozen_of_row w2 R 1 _ _ hr2
  rw [hR]
  clear hr2 hf2 hR
  go_loopw [6] (fun i wr => i = .int .i64 0 ∧ w2 = wr) (fun _ _ => 0)
  case atStart => exact ⟨rfl, rfl⟩
  case round =>
    obtain ⟨rfl, rfl⟩ := hrel
    go_wp2_with fail
    go_loopw [] (fun wr => w2 = wr) (fun _ => 0)
    case atStart => exact rfl
    case round =>
      obtain rfl := hrel
      go_wp2_with fail
      refine bodyPost_ret (res_face1 rfl _ _ R (.slice none 0 0) (.slice none 0 0) (heap_setCell_same _ _ _ _ _ _ (heap_setCell_same _ _ _ _ _ _ HE.out.1)) rfl) rfl ⟨rfl, a', c', ?_, ?_⟩
      · have hne : b ≠ R := by have := HE.out.2.2; omega
        exact (((Chg.refl [R] w2).set (.inl (by simp)) 0 _).set (.inl (by simp)) 1 _).block b (Array.getElem?_eq_some_iff.1 H2.out.1).1 (by simp [hne]) |>.trans H2.out.1
      · have hcc : Chg [b] w w2 := (Chg.of_below (F := [b]) HB.out.1).trans' H2.out.2 (fun x hx => .inl hx)
        exact (hcc.set (.inr (by rw [HE.out.2.1]; exact Nat.le_refl _)) 0 _).set (.inr (by rw [HE.out.2.1]; exact Nat.le_refl _)) 1 _

theorem asc_var (fv : Value) (w : World) : Calls Tryz.prog 91 #[.slice none 0 0, fv] w fun e w' => e = .returned (.bool true) ∧ w' = w := by
  have h10 : ¬ (1 : Int) < 0 := by omega
  go_enter Tryz.func91, Tryz.ntmps91
  go_wp2_with fail
  go_loopw [5] (fun i wr => i = .int .i64 1 ∧ w = wr) (fun _ _ => 0)
  case atStart => exact ⟨rfl, rfl⟩
  case round =>
    obtain ⟨rfl, rfl⟩ := hrel
    go_wp2_with fail
    go_ret
    exact ⟨rfl, rfl⟩
theorem asc_sig (fv : Value) (w : World) : Calls Tryz.prog 93 #[.slice none 0 0, fv] w fun e w' => e = .returned (.bool true) ∧ w' = w := by
  have h10 : ¬ (1 : Int) < 0 := by omega
  go_enter Tryz.func93, Tryz.ntmps93
  go_wp2_with fail
  go_loopw [5] (fun i wr => i = .int .i64 1 ∧ w = wr) (fun _ _ => 0)
  case atStart => exact ⟨rfl, rfl⟩
  case round =>
    obtain ⟨rfl, rfl⟩ := hrel
    go_wp2_with fail
    go_ret
    exact ⟨rfl, rfl⟩
set_option maxHeartbeats 4000000 in
theorem right_zero (w : World) : Calls Tryz.prog 42 #[.agg #[.slice none 0 0, .slice none 0 0]] w fun e w' => e = .returned (.bool true) ∧ Grow w w' := by
  obtain ⟨w1, hw1⟩ : ∃ w1, w.alloc (.cells #[.slice none 0 0, .slice none 0 0] 32) = w1 := ⟨_, rfl⟩
  have hg1 : Grow w w1 := by rw [← hw1]; exact (Below.refl _ w).alloc (Nat.le_refl _) _
  have hb1 : w1.heap[w.heap.size]? = some (.cells #[.slice none 0 0, .slice none 0 0] 32) := by rw [← hw1]; exact heap_alloc_new _ _
  have a0 : w1.cell? ⟨w.heap.size, 0, none⟩ = some (.slice none 0 0) := cellsN hb1 0 _ rfl
  have a1 : w1.cell? ⟨w.heap.size, 1, none⟩ = some (.slice none 0 0) := cellsN hb1 1 _ rfl
  have hlt0 : ¬ (0 : Int) < 0 := by omega
  have HG := Lib.hid hg1
  clear hg1 hb1
  go_enter Tryz.func42, Tryz.ntmps42
  go_wp2_with fail
  clear hw1
  go_loopw [8] (fun i wr => i = .int .i64 0 ∧ w1 = wr) (fun _ _ => 0)
  case atStart => exact ⟨rfl, rfl⟩
  case round =>
    obtain ⟨rfl, rfl⟩ := hrel
    go_wp2_with (first | (go_at_call 91; refine (asc_var _ _).mono ?_; rintro e w' ⟨rfl, rfl⟩) | (go_at_call 93; refine (asc_sig _ _).mono ?_; rintro e w' ⟨rfl, rfl⟩))
    go_ret
    exact ⟨rfl, HG.out⟩

end Go.Proofs.YtlgfijjkbomejaaGreatDoor

/- The Face of nine bytes, told; and awake. Numbers and types by name. -/
namespace Go.Proofs.YtlgfijjkbomejaaGreatDoor
open Go.RowKit Go.Lib Go.Sort
set_option maxRecDepth 100000

set_option maxHeartbeats 8000000 in
theorem dec_empty (ao : Option Addr) (c : Nat) (w : World) (h : Reads w (.slice ao 9 c) (bv encE)) (ht : Tab w) : Calls Tryz.prog 16 #[.slice ao 9 c] w
    fun e w' => e = .returned (.tuple #[.agg #[.slice none 0 0, .slice none 0 0], .int .i64 0]) ∧ Grow w w' := by
  obtain ⟨w1, hw1⟩ : ∃ w1, w.alloc (.cells #[.slice none 0 0, .slice none 0 0] 32) = w1 := ⟨_, rfl⟩
  have hg1 : Grow w w1 := by rw [← hw1]; exact (Below.refl _ w).alloc (Nat.le_refl _) _
  have hb1 : w1.heap[w.heap.size]? = some (.cells #[.slice none 0 0, .slice none 0 0] 32) := by rw [← hw1]; exact heap_alloc_new _ _
  have P1 := decode_any (.slice ao 9 c) 9 encE w1 (h.later hg1) rfl (Lib.hid (by decide))
  have HB := Lib.hid (And.intro hg1 (And.intro hb1 (ht.later hg1)))
  clear h ht hg1 hb1
  go_enter Tryz.func16, Tryz.ntmps16
  go_wp2_with fail
  refine P1.mono ?_
  rintro e w2 ⟨hg2, hd⟩
  obtain ⟨L, aL, cL, hL, rfl, hT⟩ : ∃ L ao c, dec encE = some L ∧ e = .returned (.tuple #[.slice ao L.length c, .int .i64 0]) ∧ Texts w2 (.slice ao L.length c) L.length L := by
    rcases hd with h | ⟨h, _⟩
    · exact h
    · rw [dec_one] at h
      cases h
  rw [dec_one] at hL
  obtain rfl := Option.some.inj hL
  obtain ⟨a, s, rfl, hs, hc, _⟩ := hT.at (k := 0) (by decide)
  obtain rfl : txt [48] = s := by simpa using hs
  have hcL : 1 ≤ cL := by
    obtain ⟨_, ⟨ao', cap, e, _, h1, _⟩, _⟩ := hT
    simp only [Value.slice.injEq] at e
    have : (sv [txt [48]]).length = 1 := rfl
    omega
  obtain ⟨w3, hw3⟩ : ∃ w3, w2.alloc (.cells #[.slice (some a) 1 cL, .bool false] 97) = w3 := ⟨_, rfl⟩
  have hg3 : Grow w2 w3 := by rw [← hw3]; exact (Below.refl _ w2).alloc (Nat.le_refl _) _
  have hb3 : w3.heap[w2.heap.size]? = some (.cells #[.slice (some a) 1 cL, .bool false] 97) := by rw [← hw3]; exact heap_alloc_new _ _
  have hc3 := cell_low hg3 hc
  have hc3' : w3.cell? a = some (.string (txt [48])) := by rw [← hc3]; cases a; rfl
  have P2 := face_zero w2.heap.size cL a w3 hb3 hc3' hc3 hcL (HB.out.2.2.later (Grow.trans hg2 hg3))
  have hbr := ((Grow.trans hg2 hg3).block _ (Array.getElem?_eq_some_iff.1 HB.out.2.1).1).trans HB.out.2.1
  have H3 := Lib.hid (And.intro (Grow.trans HB.out.1 (Grow.trans hg2 hg3)) (And.intro hbr (show w.heap.size < w2.heap.size from by have := (Array.getElem?_eq_some_iff.1 HB.out.2.1).1; have := hg2.size; omega)))
  have HW3 := Lib.hid hw3
  clear hw3 hw1 hd hT hs hc hcL hg3 hb3 hc3 hc3' hbr P1 hL hg2
  rw [show ([txt [48]] : List ByteArray).length = 1 from rfl]
  go_upto_region 5 with fail
  rw [HW3.out]
  go_wp2_with fail
  refine P2.mono ?_
  rintro e w4 ⟨rfl, a', c', hb4, hc4⟩
  have hbr4 := (hc4.block _ (Array.getElem?_eq_some_iff.1 H3.out.2.1).1 (by have := H3.out.2.2; simp; omega)).trans H3.out.2.1
  obtain ⟨w5, hw5⟩ : ∃ w5, w4.alloc (.cells #[.slice none 0 0, .slice none 0 0] 32) = w5 := ⟨_, rfl⟩
  have hg5 : Grow w4 w5 := by rw [← hw5]; exact (Below.refl _ w4).alloc (Nat.le_refl _) _
  have hf5 : w5.heap[w4.heap.size]? = some (.cells #[.slice none 0 0, .slice none 0 0] 32) := by rw [← hw5]; exact heap_alloc_new _ _
  have hr5 := (hg5.block _ (Array.getElem?_eq_some_iff.1 hbr4).1).trans hbr4
  have hb5 := (hg5.block _ (Array.getElem?_eq_some_iff.1 hb4).1).trans hb4
  have b1 : w5.cell? ⟨w2.heap.size, 1, none⟩ = some (.bool false) := cellsN hb5 1 _ rfl
  have f0 : w5.cell? ⟨w4.heap.size, 0, none⟩ = some (.slice none 0 0) := cellsN hf5 0 _ rfl
  have f1 : w5.cell? ⟨w4.heap.size, 1, none⟩ = some (.slice none 0 0) := cellsN hf5 1 _ rfl
  have HG5 : Hid (Grow w w5 ∧ w.heap.size < w2.heap.size) := Lib.hid ⟨Below.trans (H3.out.1 : Grow w w3) (Below.trans (hc4.below H3.out.1.size (fun x hx => by have := H3.out.2.2; simp at hx; omega)) (hg5.mono (by have := H3.out.1.size; have := hc4.size; omega))), H3.out.2.2⟩
  have HF := Lib.hid (And.intro hf5 hr5)
  have P3 := right_zero w5
  clear hb4 hc4 hbr4 hg5 hf5 hr5 hb5 P2
  have HW5 := Lib.hid hw5
  clear hw5
  go_upto_region 6 with fail
  rw [HW5.out]
  go_wp2_with (go_at_call 42; refine P3.mono ?_; rintro e w6 ⟨rfl, hg6⟩; have hf6 := (hg6.block _ (Array.getElem?_eq_some_iff.1 HF.out.1).1).trans HF.out.1; have hr6 := (hg6.block _ (Array.getElem?_eq_some_iff.1 HF.out.2).1).trans HF.out.2; have g0 : w6.cell? ⟨w4.heap.size, 0, none⟩ = some (.slice none 0 0) := cellsN hf6 0 _ rfl; have g1 : w6.cell? ⟨w4.heap.size, 1, none⟩ = some (.slice none 0 0) := cellsN hf6 1 _ rfl; have r0 : w6.cell? ⟨w.heap.size, 0, none⟩ = some (.slice none 0 0) := cellsN hr6 0 _ rfl; have r1 : w6.cell? ⟨w.heap.size, 1, none⟩ = some (.slice none 0 0) := cellsN hr6 1 _ rfl; have fr0 := frozen_of_row w6 w.heap.size 0 _ _ hr6; have fr1 := frozen_of_row w6 w.heap.size 1 _ _ hr6; have H6 := Lib.hid (And.intro hr6 hg6); clear hf6 hr6 hg6)
  exact bodyPost_ret (res_face rfl _ _ w.heap.size (.slice none 0 0) (.slice none 0 0) (heap_setCell_same _ _ _ _ _ _ (heap_setCell_same _ _ _ _ _ _ H6.out.1)) _ rfl rfl) rfl ⟨rfl, below_set (below_set (Grow.trans HG5.out.1 H6.out.2) (Nat.le_refl _) 0 _) (Nat.le_refl _) 1 _⟩

end Go.Proofs.YtlgfijjkbomejaaGreatDoor

/- What awake asks of package face. Numbers and types by name. -/
namespace Go.Proofs.YtlgfijjkbomejaaGreatDoor
open Go.RowKit Go.Lib Go.Sort
set_option maxRecDepth 100000

theorem str_one (w : World) (s : B8) : StrV (w.alloc (.cells #[.string (tx s)] 9)) (.slice (some ⟨w.heap.size, 0, none⟩) 1 1) 1 [s] := ⟨rfl, by decide, str_lit w s⟩
theorem StrV.of_blk {W : World} {g : Nat} {s : B8} (h : W.heap[g]? = some (.cells #[.string (tx s)] 9)) : StrV W (.slice (some ⟨g, 0, none⟩) 1 1) 1 [s] := by
  refine ⟨rfl, by decide, some ⟨g, 0, none⟩, 1, rfl, rfl, Nat.le_refl _, (fun e => by cases e), fun a ha j u hj => ?_⟩
  cases ha
  have hj0 : j = 0 := by have := (List.getElem?_eq_some_iff.1 hj).1; simp [sx] at this; omega
  subst hj0
  have hu : Value.string (tx s) = u := by simpa [sx] using hj
  rw [← hu]
  exact cellsN h 0 _ rfl
theorem uni_len : (uniT [[98]] [[97]]).length = 2 := by decide +kernel
theorem with_one : withT [[97]] (uniT [[98]] [[97]]) = true := by decide +kernel
set_option maxHeartbeats 8000000 in
theorem awake_face (w : World) (ht : Tab w) : Calls Tryz.prog 9 #[] w fun e w' => e = .returned (.bool true) ∧ Grow w w' := by
  have P1 := of_empty w
  have HT := Lib.hid ht
  clear ht
  go_enter Tryz.func9, Tryz.ntmps9
  go_upto_region 2 with (go_at_call 10; refine P1.mono ?_; rintro e w1 ⟨rfl, hg1⟩; have H1 : Hid (Grow w w1) := Lib.hid hg1; clear hg1)
  obtain ⟨w2, hw2⟩ : ∃ w2, w1.alloc (.cells #[.slice none 0 0, .slice none 0 0] 32) = w2 := ⟨_, rfl⟩
  have hg2 : Grow w1 w2 := by rw [← hw2]; exact (Below.refl _ w1).alloc (Nat.le_refl _) _
  have hb2 : w2.heap[w1.heap.size]? = some (.cells #[.slice none 0 0, .slice none 0 0] 32) := by rw [← hw2]; exact heap_alloc_new _ _
  have a0 : w2.cell? ⟨w1.heap.size, 0, none⟩ = some (.slice none 0 0) := cellsN hb2 0 _ rfl
  have a1 : w2.cell? ⟨w1.heap.size, 1, none⟩ = some (.slice none 0 0) := cellsN hb2 1 _ rfl
  have P2 := enc_empty w2 (HT.out.later (Grow.trans H1.out hg2))
  have H2 := Lib.hid (And.intro (Grow.trans H1.out hg2) hb2)
  clear hg2 hb2 P1
  rw [hw2]
  clear hw2
  go_upto_region 3 with (first | (go_at_call 18; refine P2.mono ?_; rintro e w3 ⟨ao, c, rfl, ho, hg3⟩; have P3 := dec_empty ao c w3 ho.reads (HT.out.later (Grow.trans H2.out.1 hg3)); have H3 := Lib.hid hg3; clear ho hg3) | (go_at_call 16; refine P3.mono ?_; rintro e w4 ⟨rfl, hg4⟩; have H4 := Lib.hid (Grow.trans H3.out hg4); clear hg4))
  obtain ⟨w5, hw5⟩ : ∃ w5, w4.alloc (.cells #[.slice none 0 0, .slice none 0 0] 32) = w5 := ⟨_, rfl⟩
  have hg5 : Grow w4 w5 := by rw [← hw5]; exact (Below.refl _ w4).alloc (Nat.le_refl _) _
  have hb5 : w5.heap[w4.heap.size]? = some (.cells #[.slice none 0 0, .slice none 0 0] 32) := by rw [← hw5]; exact heap_alloc_new _ _
  have hf5 := ((Grow.trans H4.out hg5).block _ (Array.getElem?_eq_some_iff.1 H2.out.2).1).trans H2.out.2
  have b0 : w5.cell? ⟨w4.heap.size, 0, none⟩ = some (.slice none 0 0) := cellsN hb5 0 _ rfl
  have e0 : w5.cell? ⟨w1.heap.size, 0, none⟩ = some (.slice none 0 0) := cellsN hf5 0 _ rfl
  have e1 : w5.cell? ⟨w1.heap.size, 1, none⟩ = some (.slice none 0 0) := cellsN hf5 1 _ rfl
  have H5 : Hid (Grow w w5) := Lib.hid (Grow.trans H2.out.1 (Grow.trans H4.out hg5))
  have P5 := enc_empty w5 (HT.out.later H5.out)
  clear hg5 hb5 hf5 P2 P3 a0 a1
  rw [hw5]
  clear hw5
  go_wp2_with (first | (go_at_call 20; refine (lnum_at _ _).mono ?_; rintro e w' ⟨rfl, rfl⟩) | (go_at_call 18; refine P5.mono ?_; rintro e w6 ⟨ao6, c6, rfl, ho6, hg6⟩; obtain ⟨hg9, n0, n1, n2⟩ := three_new w6 (.cells #[.string ⟨#[97]⟩] 9) (.cells #[.string ⟨#[98]⟩] 9) (.cells #[.string ⟨#[97]⟩] 9); have PU := code_union (.slice (some ⟨w6.heap.size + 1, 0, none⟩) 1 1) (.slice (some ⟨w6.heap.size + 1 + 1, 0, none⟩) 1 1) 1 1 [[98]] [[97]] _ (StrV.of_blk (s := [98]) n1) (StrV.of_blk (s := [97]) n2) (by decide); have H6 := Lib.hid (And.intro (Grow.trans H5.out (Grow.trans hg6 hg9)) (StrV.of_blk (s := [97]) n0)); clear ho6 hg6 hg9 n0 n1 n2) | (go_at_call 21; refine PU.mono ?_; rintro e w7 ⟨u, m7, rfl, ho7, hg7⟩; obtain ⟨a7, c7, rfl⟩ := ho7.shape; have hm7 : m7 = 2 := ho7.1.trans uni_len; subst hm7; have PW := code_within (.slice (some ⟨w6.heap.size, 0, none⟩) 1 1) (.slice a7 2 c7) 1 2 [[97]] _ w7 (H6.out.2.later hg7) (ho7.read (by decide)) (by decide); rw [with_one] at PW; have H7 := Lib.hid (Grow.trans H6.out.1 hg7); clear ho7 hg7) | (go_at_call 25; refine PW.mono ?_; rintro e w8 ⟨rfl, hg8⟩; have H8 := Lib.hid (Grow.trans H7.out hg8); clear hg8))
  go_ret
  exact ⟨rfl, H8.out⟩

end Go.Proofs.YtlgfijjkbomejaaGreatDoor

namespace Go.Proofs.YtlgfijjkbomejaaGreatDoor
open Go.RowKit Go.Lib Go.Sort
set_option maxRecDepth 100000

theorem txt_rows {w : World} {v : Value} {n : Nat} {L : List B8} (h : StrV w v n L) : TRows w 1 TxtT v L := by
  obtain ⟨h1, h2, h3⟩ := h
  subst h1
  refine ⟨by unfold maxLen; omega, sx L, h3, ?_⟩
  clear h2 h3
  induction L with
  | nil => rfl
  | cons s L ih => exact ⟨[.string (tx s)], sx L, rfl, rfl, rfl, ih⟩
set_option maxHeartbeats 16000000 in
theorem facesets_walk (a1 a2 : Option Addr) (n1 c1 n2 c2 : Nat) (A B : List B8) (w : World) (ht : Tab w) (hm1 : n1 ≤ maxLen) (hm2 : n2 ≤ maxLen) (hAB : n1 ≤ 60 → n2 ≤ 60 → StrV w (.slice a1 n1 c1) n1 A ∧ StrV w (.slice a2 n2 c2) n2 B) : Calls Tryz.prog 6 #[.slice a1 n1 c1, .slice a2 n2 c2] w fun e w' => e = .returned (.bool true) ∧ Below w.heap.size w w' := by
  have HT := Lib.hid ht
  unfold maxLen at hm1 hm2
  clear ht
  by_cases g1 : 60 < n1
  · have g1' : (60 : Int) < (n1 : Int) := by omega
    go_enter Tryz.func6, Tryz.ntmps6
    go_wp2_with (go_at_call 9; refine (awake_face _ HT.out).mono ?_; rintro e w' ⟨rfl, hb9⟩; have H9 := Lib.hid hb9; clear hb9)
    go_ret
    exact ⟨rfl, H9.out⟩
  have g1' : ¬ (60 : Int) < (n1 : Int) := by omega
  by_cases g2 : 60 < n2
  · have g2' : (60 : Int) < (n2 : Int) := by omega
    go_enter Tryz.func6, Tryz.ntmps6
    go_wp2_with (go_at_call 9; refine (awake_face _ HT.out).mono ?_; rintro e w' ⟨rfl, hb9⟩; have H9 := Lib.hid hb9; clear hb9)
    go_ret
    exact ⟨rfl, H9.out⟩
  have g2' : ¬ (60 : Int) < (n2 : Int) := by omega
  have H := Lib.hid (And.intro HT.out (hAB (by omega) (by omega)))
  clear hAB
  have P1 := code_union _ _ n1 n2 A B w H.out.2.1 H.out.2.2 (by omega)
  go_enter Tryz.func6, Tryz.ntmps6
  go_upto_region 4 with (go_at_call 21; refine P1.mono ?_; rintro e w1 ⟨u, m, rfl, ho, hg⟩; obtain ⟨au, cu, rfl⟩ := ho.shape; have H1 := Lib.hid (And.intro ho hg); clear ho hg)
  obtain ⟨U, hU⟩ : ∃ U, uniT A B = U := ⟨_, rfl⟩
  rw [hU] at H1
  have hmU : m ≤ 120 := by
    have h3 := H1.out.1.1
    have h4 := uniT_len A B
    rw [hU] at h4
    have := H.out.2.1.1
    have := H.out.2.2.1
    omega
  have HU := Lib.hid (And.intro hU (show RiseT U from by rw [← hU]; exact uniT_rise A B))
  clear hU P1
  go_wp2_with fail
  go_loopw [6] (fun i wr => ∃ k : Nat, 1 ≤ k ∧ (k ≤ m ∨ k = 1) ∧ i = .int .i64 k ∧ Hid (Grow w1 wr)) (fun i _ => m + 1 - (RowKit.intOf i).toNat)
  case atStart => exact ⟨1, Nat.le_refl _, .inr rfl, rfl, Lib.hid (Grow.refl _)⟩
  case round =>
    obtain ⟨k, hk1, hk2, rfl, hs⟩ := hrel
    by_cases hlt : k < m
    · obtain ⟨q, hq⟩ : ∃ q, k = q + 1 := ⟨k - 1, by omega⟩
      have hV := (H1.out.1.read (by omega)).later hs.out
      obtain ⟨a, x, rfl, hx, cx⟩ := hV.at hlt
      obtain ⟨a', y, e', hy, cy⟩ := hV.at (show q < m by omega)
      cases e'
      have hyx : y < x := by
        have h := List.pairwise_iff_getElem.1 HU.out.2 q k (List.getElem?_eq_some_iff.1 hy).1 (List.getElem?_eq_some_iff.1 hx).1 (by omega)
        rw [(List.getElem?_eq_some_iff.1 hy).2, (List.getElem?_eq_some_iff.1 hx).2] at h
        exact h
      have b1 : Op.bytesLess (tx x).toList (tx y).toList = false := by rw [tx_list, tx_list, bytesLess_eq, decide_eq_false_iff_not]; exact fun h => lt_irr8 x (List.lt_trans h hyx)
      have b2 : Op.bytesLess (tx y).toList (tx x).toList = true := by rw [tx_list, tx_list, bytesLess_eq, decide_eq_true_eq]; exact hyx
      have b3 : ((tx x).toList == (tx y).toList) = false := by rw [tx_list, tx_list, beq_eq_false_iff_ne]; exact fun e => lt_irr8 y (by rw [e] at hyx; exact hyx)
      have hqI : (k : Int) - 1 = (q : Int) := by omega
      have hwq : IntKind.i64.wrap (q : Int) = (q : Int) := IntWalk.i64_in _ (by omega)
      have hqt : ((q : Int)).toNat = q := Int.toNat_natCast q
      have hk0 : (0 : Int) ≤ (k : Int) := by omega
      have hkm : (k : Int) < (m : Int) := by omega
      have hq0 : (0 : Int) ≤ (q : Int) := by omega
      have hqm : (q : Int) < (m : Int) := by omega
      obtain ⟨px, hpx⟩ : ∃ p, a.add k = p := ⟨_, rfl⟩
      obtain ⟨py, hpy⟩ : ∃ p, a.add q = p := ⟨_, rfl⟩
      rw [hpx] at cx
      rw [hpy] at cy
      clear hx hy hyx hV hq
      go_upto_region 7 with fail
      refine wp_region_mvu [(0, 10, true)] (by kernel_rfl) (by kernel_rfl) ?_
      simp only [mvAll, mvSeg, List.drop_zero, List.cons_append, List.nil_append, Nat.reduceAdd]
      iterate 10
        refine wpLinU_step ?_ (fun w' hG K hK => ?_) (fun K hK => ?_)
        rotate_left
        · have l1 := (Grow.trans (below_drewN (Grow.refl wr) 1) hG).cell (World.block_lt_of_cell? wr _ cx) |>.trans cx
          have l2 := (Grow.trans (below_drewN (Grow.refl wr) 1) hG).cell (World.block_lt_of_cell? wr _ cy) |>.trans cy
          unfold mvValU
          go_simp
          exact hK
        go_simp
        refine hK _ ?_
        clear hK K
      refine wpLinU_nil ?_
      intro w3 hG3
      have hs2 : Hid (Grow w1 w3) := Lib.hid (Grow.trans hs.out (Grow.trans (below_drewN (Grow.refl wr) 1) hG3))
      clear hG3
      go_wp2_with fail
      exact ⟨⟨k + 1, by omega, .inl (by omega), by go_num, hs2⟩, by simp [RowKit.intOf]; omega⟩
    · have hkm : ¬ (k : Int) < (m : Int) := by omega
      clear hlt
      have HS := hs
      clear hs
      go_wp2_with fail
      go_loopw [7] (fun i w2 => ∃ k : Nat, k ≤ m ∧ i = .int .i64 k ∧ Hid (Grow w1 w2)) (fun i _ => m - (RowKit.intOf i).toNat)
      case atStart => exact ⟨0, Nat.zero_le _, rfl, HS⟩
      case round =>
        obtain ⟨j, hj, rfl, hs⟩ := hrel
        by_cases hlt : j < m
        · have hV := (H1.out.1.read (by omega)).later hs.out
          obtain ⟨a, x, rfl, hx, cx⟩ := hV.at hlt
          have hxU : x ∈ A ∨ x ∈ B := uniT_mem.1 (by rw [HU.out.1]; exact List.mem_of_getElem? hx)
          have PA := Lib.hid (fun (W : World) (hg : Grow w1 W) => ref_has (.slice a1 n1 c1) n1 A x W (H.out.2.1.later (Grow.trans H1.out.2 hg)))
          have PB := Lib.hid (fun (W : World) (hg : Grow w1 W) => ref_has (.slice a2 n2 c2) n2 B x W (H.out.2.2.later (Grow.trans H1.out.2 hg)))
          have hj0 : (0 : Int) ≤ (j : Int) := by omega
          have hjm : (j : Int) < (m : Int) := by omega
          have KC : Hid (∀ W, Grow wr W → W.cell? (a.add j) = some (.string (tx x))) := Lib.hid fun W hg => (hg.cell (World.block_lt_of_cell? wr _ cx)).trans cx
          by_cases hA : x ∈ A
          · rw [decide_eq_true hA] at PA
            clear hx hxU hV
            go_wp2_with (go_at_call 22; refine (PA.out _ hs.out).mono ?_; rintro e w3 ⟨rfl, q3, rfl⟩)
            exact ⟨⟨j + 1, by omega, by go_num, Lib.hid (below_drewN hs.out q3)⟩, by simp [RowKit.intOf]; omega⟩
          · have hB : x ∈ B := hxU.resolve_left hA
            rw [decide_eq_false hA] at PA
            rw [decide_eq_true hB] at PB
            clear hx hxU hV
            go_wp2_with (first | (have _ := G3.out; go_at_call 22; refine (PB.out _ G3.out.2).mono ?_; rintro e w4 ⟨rfl, q4, rfl⟩; have G4 := Lib.hid (below_drewN G3.out.2 q4)) | (go_at_call 22; refine (PA.out _ hs.out).mono ?_; rintro e w3 ⟨rfl, q3, rfl⟩; have G3 := Lib.hid (And.intro (KC.out _ (below_drewN (Grow.refl wr) q3)) (below_drewN hs.out q3)); have cx3 := G3.out.1))
            exact ⟨⟨j + 1, by omega, by go_num, Lib.hid (below_drewN hs.out (q3 + q4))⟩, by simp [RowKit.intOf]; omega⟩
        · have hjm : ¬ (j : Int) < (m : Int) := by omega
          have HS2 := hs
          clear hlt hs HS
          have wAU : withT A U = true := by
            unfold withT
            rw [List.all_eq_true]
            exact fun x hx => by rw [decide_eq_true_eq, ← HU.out.1]; exact uniT_mem.2 (.inl hx)
          have wBU : withT B U = true := by
            unfold withT
            rw [List.all_eq_true]
            exact fun x hx => by rw [decide_eq_true_eq, ← HU.out.1]; exact uniT_mem.2 (.inr hx)
          have hl1 := H.out.2.1.1
          have hl2 := H.out.2.2.1
          have PU := Lib.hid (fun (W : World) (hg : Grow w1 W) => ref_union (.slice a1 n1 c1) (.slice a2 n2 c2) n1 n2 A B W (H.out.2.1.later (Grow.trans H1.out.2 hg)) (H.out.2.2.later (Grow.trans H1.out.2 hg)) (by omega))
          rw [HU.out.1] at PU
          have D1 := Lib.hid (fun (W : World) (hg : Grow w1 W) => code_within (.slice a1 n1 c1) (.slice a2 n2 c2) n1 n2 A B W (H.out.2.1.later (Grow.trans H1.out.2 hg)) (H.out.2.2.later (Grow.trans H1.out.2 hg)) (by omega))
          have D2 := Lib.hid (fun (W : World) (hg : Grow w1 W) => ref_within (.slice a1 n1 c1) (.slice a2 n2 c2) n1 n2 A B W (H.out.2.1.later (Grow.trans H1.out.2 hg)) (H.out.2.2.later (Grow.trans H1.out.2 hg)))
          have D3 := Lib.hid (fun (W : World) (hg : Grow w1 W) => code_within (.slice a1 n1 c1) (.slice au m cu) n1 m A U W (H.out.2.1.later (Grow.trans H1.out.2 hg)) ((H1.out.1.read (by omega)).later hg) (by omega))
          have D4 := Lib.hid (fun (W : World) (hg : Grow w1 W) => code_within (.slice a2 n2 c2) (.slice au m cu) n2 m B U W (H.out.2.2.later (Grow.trans H1.out.2 hg)) ((H1.out.1.read (by omega)).later hg) (by omega))
          rw [wAU] at D3
          rw [wBU] at D4
          obtain ⟨bq, hbq⟩ : ∃ b, withT A B = b := ⟨_, rfl⟩
          rw [hbq] at D1 D2
          have DA := Lib.hid (fun (W : World) (hg : Grow w1 W) => awake_face W (H.out.1.later (Grow.trans H1.out.2 hg)))
          clear wAU wBU hl1 hl2 hbq
          go_wp2_with (first | (have _ := G6.out; go_at_call 9; refine (DA.out _ G6.out).mono ?_; rintro e w9 ⟨rfl, hg9⟩; have G7 := Lib.hid (Grow.trans G6.out hg9); clear hg9) | (have _ := G5.out; go_at_call 25; refine (D4.out _ G5.out).mono ?_; rintro e w8 ⟨rfl, hg8⟩; have G6 := Lib.hid (Grow.trans G5.out hg8); clear hg8) | (have _ := G4.out; go_at_call 25; refine (D3.out _ G4.out).mono ?_; rintro e w7 ⟨rfl, hg7⟩; have G5 := Lib.hid (Grow.trans G4.out hg7); clear hg7) | (have _ := G3.out; go_at_call 26; refine (D2.out _ G3.out).mono ?_; rintro e w6 ⟨rfl, q6, rfl⟩; have G4 := Lib.hid (below_drewN G3.out q6)) | (have _ := G2.out; go_at_call 25; refine (D1.out _ G2.out).mono ?_; rintro e w5 ⟨rfl, hg5⟩; have G3 := Lib.hid (Grow.trans G2.out hg5); clear hg5) | (go_at_call 23; refine (cmp_texts _ _ U U _ (txt_rows ((H1.out.1.read (by omega)).later G1.out.2)) (txt_rows (G1.out.1.read (by have := G1.out.1.1; have := H1.out.1.1; omega)))).mono ?_; rintro e w4 ⟨b4, rfl, h4, hg4⟩; obtain rfl : b4 = true := h4.2 rfl; have G2 := Lib.hid (Grow.trans G1.out.2 hg4); clear h4 hg4) | (go_at_call 24; refine (PU.out _ HS2.out).mono ?_; rintro e w3 ⟨u3, m3, rfl, ho3, hg3⟩; obtain ⟨a3, c3, rfl⟩ := ho3.shape; have G1 := Lib.hid (And.intro ho3 (Grow.trans HS2.out hg3)); clear ho3 hg3))
          go_ret
          exact ⟨rfl, Grow.trans H1.out.2 G7.out⟩

end Go.Proofs.YtlgfijjkbomejaaGreatDoor
