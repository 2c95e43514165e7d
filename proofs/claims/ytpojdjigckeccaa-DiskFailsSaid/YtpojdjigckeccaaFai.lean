/- DiskFails, walked: its first loop. Numbers and types by name. -/
import Derived.Test.YtpojdjigckeccaaFq2
import Derived.StillTailTactics
namespace Go.Proofs.Ytpojdjigckeccaa
open Go.RowKit Go.Maps Go.Sort Go.WideMaps

def zsOf (A : List UInt8) (k : Nat) : List Int := (A.take k).map fun x => (x.toNat : Int)
def badOf (A : List UInt8) (k : Nat) (a : Nat) : Bool := ((A.take k).map fun x => x.toNat).contains a

/-- The array of what is to fail. -/
def BadAt (w : World) (bb : Nat) (A : List UInt8) (k : Nat) : Prop :=
  ∃ cs, w.heap[bb]? = some (.cells cs 54 (0, 0)) ∧ cs.size = 300 ∧ ∀ a, a < 300 → cs[a]? = some (.bool (badOf A k a))

theorem zeroCells_is : Try.zeroCells54 = Array.replicate 300 (.bool false) := by kernel_rfl

theorem bad_start (w : World) (A : List UInt8) : BadAt (w.alloc (.cells Try.zeroCells54 54)) w.heap.size A 0 := by
  refine ⟨_, heap_alloc_new _ _, by rw [zeroCells_is]; simp, fun a ha => ?_⟩
  rw [zeroCells_is]
  simp [badOf, ha]

theorem BadAt.turn {w w' : World} {F : List Nat} {bb : Nat} {A : List UInt8} {k : Nat} (h : BadAt w bb A k) (t : Turn F w w') (hb : bb ∉ F) : BadAt w' bb A k := by
  obtain ⟨cs, h1, h2⟩ := h
  exact ⟨cs, t.heap h1 hb, h2⟩

theorem BadAt.below {w w' : World} {B : Nat} {bb : Nat} {A : List UInt8} {k : Nat} (h : BadAt w bb A k) (t : Below B w w') (hb : bb < B) : BadAt w' bb A k := by
  obtain ⟨cs, h1, h2⟩ := h
  exact ⟨cs, (t.block bb hb).trans h1, h2⟩

theorem BadAt.cell {w : World} {bb : Nat} {A : List UInt8} {k : Nat} (h : BadAt w bb A k) (a : Nat) (ha : a < 300) : w.cell? ⟨bb, a, none⟩ = some (.bool (badOf A k a)) ∧ w.frozen? ⟨bb, a, none⟩ = false := by
  obtain ⟨cs, h1, h2, h3⟩ := h
  exact ⟨cells_of h1 a _ (h3 a ha), free_of h1 a⟩

theorem take_next {A : List UInt8} {k : Nat} {x : UInt8} (hx : A[k]? = some x) : A.take (k + 1) = A.take k ++ [x] := by
  rw [List.take_add_one, hx]; rfl

theorem BadAt.set {w : World} {bb : Nat} {A : List UInt8} {k : Nat} {x : UInt8} (h : BadAt w bb A k) (hx : A[k]? = some x) : BadAt (w.setCell ⟨bb, x.toNat, none⟩ (.bool true)) bb A (k + 1) := by
  obtain ⟨cs, h1, h2, h3⟩ := h
  have hlt : x.toNat < 256 := x.toNat_lt
  have hs : x.toNat < cs.size := by omega
  refine ⟨cs.setIfInBounds x.toNat (.bool true), heap_set h1 _ _, by simp [h2], fun a ha => ?_⟩
  have e : badOf A (k + 1) a = (badOf A k a || (x.toNat == a)) := by
    unfold badOf
    rw [take_next hx, List.map_append, Bool.eq_iff_iff]
    simp only [List.contains_iff_mem, List.mem_append, List.map_cons, List.map_nil, List.mem_singleton, Bool.or_eq_true, beq_iff_eq]
    exact or_congr Iff.rfl eq_comm
  rw [e, Array.getElem?_setIfInBounds]
  by_cases hax : x.toNat = a
  · subst hax
    simp [hs]
  · rw [if_neg hax, h3 a ha]
    simp [hax]

theorem zs_next {A : List UInt8} {k : Nat} {x : UInt8} (hx : A[k]? = some x) : iv (zsOf A (k + 1)) = iv (zsOf A k) ++ [.int .i64 (x.toNat : Int)] := by
  unfold zsOf
  rw [take_next hx]
  simp [iv]

theorem zs_bad (A : List UInt8) (k a : Nat) : (zsOf A k).contains (a : Int) = badOf A k a := by
  unfold zsOf badOf
  rw [Bool.eq_iff_iff]
  simp only [List.contains_iff_mem, List.mem_map]
  constructor
  · rintro ⟨x, hx, e⟩; exact ⟨x, hx, by omega⟩
  · rintro ⟨x, hx, e⟩; exact ⟨x, hx, by omega⟩

theorem reads_at {w : World} {ad : Addr} {n c : Nat} {xs : List Value} (h : Reads w (.slice (some ad) n c) xs) {k : Nat} {u : Value} (hk : xs[k]? = some u) : w.cell? (ad.add k) = some u := by
  obtain ⟨ao, cap, e, _, hc⟩ := h
  simp only [Value.slice.injEq] at e
  obtain ⟨rfl, _, rfl⟩ := e
  exact hc ad rfl k u hk

theorem after_append {w wr w1 : World} {W : Nat} {A : List UInt8} {k : Nat} {ao : Option Addr} {c : Nat} {xs : List Value} {o : Obj} (hown : wr.ownsRow (W + 1) 3 1 (.slice ao k c) k xs) (hbad : BadAt wr W A k) (hB : Below W w wr) (hW : w.heap.size = W) (hg : (wr.alloc o).grownBy w1 (Value.slice ao k c).ownBlock) :
    BadAt w1 W A k ∧ Below W w w1 ∧ wr.heap.size ≤ w1.heap.size := by
  have hs : ∀ g ∈ (Value.slice ao k c).ownBlock.toList, W + 1 ≤ g := fun g h => (hown.lt g (by simpa using h)).1
  have t1 : Turn (Value.slice ao k c).ownBlock.toList wr w1 := ((Turn.refl _ wr).alloc o).trans (Turn.of_grown hg (by intro g e; simp [e]))
  refine ⟨hbad.turn t1 (fun h => by have := hs W h; omega), hB.trans (t1.below (by have := hB.size; omega) (fun g h => by have := hs g h; omega)), t1.size⟩

set_option maxHeartbeats 1000000 in
set_option maxRecDepth 100000 in
theorem fails_walk (aoA : Option Addr) (cA : Nat) (A : List UInt8) (room : Nat) (w : World) (hA : Reads w (.slice aoA A.length cA) (bv A)) (hlA : A.length ≤ 50) (hroom : room ≤ 255) :
    Calls Try.prog 6 #[.slice aoA A.length cA, .int .u8 room] w fun e w' => e = .returned (.bool true) ∧ Below w.heap.size w w' := by
  have HA := Lib.hid hA
  have k1 : ¬ (50 : Int) < (A.length : Int) := by omega
  obtain ⟨i0, hi, hz0, hz1, hz2⟩ := info_parts info_int
  have HI := Lib.hid (And.intro hi (And.intro hz0 (And.intro hz1 hz2)))
  have hb0 := bad_start w A
  clear hA hi hz0 hz1 hz2
  go_enter Try.func6, Try.ntmps6
  go_wp2_with fail
  have B0 : Below w.heap.size w (w.alloc (.cells Try.zeroCells54 54)) := (Below.refl _ w).alloc (Nat.le_refl _) _
  have hsz0 : (w.alloc (.cells Try.zeroCells54 54)).heap.size = w.heap.size + 1 := by simp
  generalize w.alloc (.cells Try.zeroCells54 54) = w0 at *
  have H0 := Lib.hid (And.intro hb0 (And.intro B0 hsz0))
  clear hb0 B0 hsz0
  go_loopw [5, 7] (fun l i wr => ∃ k : Nat, k ≤ A.length ∧ i = .int .i64 k ∧ Hid (∃ ao c, l = .slice ao k c ∧ wr.ownsRow (w.heap.size + 1) 3 1 (.slice ao k c) k (iv (zsOf A k)) ∧ BadAt wr w.heap.size A k ∧ Below w.heap.size w wr ∧ w.heap.size + 1 ≤ wr.heap.size))
    (fun l i _ => A.length - (intOf i).toNat)
  case atStart =>
    exact ⟨0, Nat.zero_le _, rfl, none, 0, rfl, World.ownsRow_nil _ _ _ _, H0.out.1, H0.out.2.1, by rw [H0.out.2.2]; exact Nat.le_refl _⟩
  case round =>
    obtain ⟨k, hk, rfl, hrel⟩ := hrel
    obtain ⟨ao, c, rfl, hown, hbad, hB, hsz⟩ := hrel.out
    clear H0
    by_cases hlt2 : k < A.length
    · have hlt3 : (k : Int) < (A.length : Int) := by omega
      obtain ⟨x, hx⟩ : ∃ x, A[k]? = some x := ⟨A[k], List.getElem?_eq_getElem hlt2⟩
      have hxb : (bv A)[k]? = some (.int .u8 (x.toNat : Int)) := by simp [bv, hx]
      have hx256 : x.toNat < 256 := x.toNat_lt
      obtain ⟨ad, rfl⟩ : ∃ ad, aoA = some ad := by
        obtain ⟨ao', cap', e, hn, _⟩ := HA.out
        simp only [Value.slice.injEq] at e
        obtain ⟨rfl, _, _⟩ := e
        cases aoA with
        | some ad => exact ⟨ad, rfl⟩
        | none => rw [(hn rfl).1] at hxb; cases hxb
      have hcell := reads_at (HA.out.below hB (Nat.le_refl _)) hxb
      have HALL := Lib.hid (And.intro hown (And.intro hbad (And.intro hB (And.intro hsz hx))))
      have HXB := Lib.hid hxb
      clear hown hbad hB hsz hx hxb hrel
      go_wp2_with (at_builtin; refine wpList_append_lies _ rfl (.tmp 24) (.tmp 30) 22 rfl (w.heap.size + 1) 3 i0 (.int .i64 0) 1 8 Try.underlying22 HI.out.1 HI.out.2.1 HI.out.2.2.1 HI.out.2.2.2 rfl (by decide) (.slice ao k c) k (iv (zsOf A k)) rfl (HALL.out.1.alloc _) ⟨wr.heap.size, 0, none⟩ 1 1 [.int .i64 (x.toNat : Int)] rfl rfl (World.news_of_block (heap_alloc_new wr _)) (by intro u hu; simp at hu; subst hu; rfl) (by decide) (by unfold maxLen; omega) (by omega) (by have := HALL.out.2.2.2.1; simp; omega) _ rfl ?_; intro g cap w1 hown1 hgrow1 hg1 hlt1; obtain ⟨hbad1, hB1, hs1⟩ := after_append HALL.out.1 HALL.out.2.1 HALL.out.2.2.1 rfl hgrow1; have hcell1 := reads_at (HA.out.below hB1 (Nat.le_refl _)) HXB.out; obtain ⟨hc1, hf1⟩ := hbad1.cell x.toNat (by omega); have H1 := Lib.hid (And.intro hown1 (And.intro hbad1 (And.intro hB1 hs1))); clear hown1 hbad1 hB1 hs1 hgrow1 hg1 hlt1)
      go_roundw
      case rel =>
        have hx := HALL.out.2.2.2.2
        obtain ⟨hown1, hbad1, hB1, hs1⟩ := H1.out
        have hs2 := HALL.out.2.2.2.1
        have ts : Turn [w.heap.size] w1 (w1.setCell ⟨w.heap.size, x.toNat, none⟩ (.bool true)) := (Turn.refl _ w1).set (c := w.heap.size) (.inl (by simp)) _ _
        refine ⟨k + 1, by omega, by go_num, Lib.hid ⟨some ⟨g, 0, none⟩, cap, rfl, ?_, hbad1.set hx, hB1.trans (ts.below hB1.size (by simp)), by have := ts.size; omega⟩⟩
        rw [zs_next hx]
        exact owns_turn hown1 ts (fun g' hg' => by have := (hown1.lt g' hg').1; simp; omega)
      case measure => simp [intOf]; omega
    · obtain rfl : k = A.length := by omega
      have hzl : (zsOf A A.length).length = A.length := by simp [zsOf]
      have hRd : Reads wr (.slice ao A.length c) (iv (zsOf A A.length)) := Reads.own (by simpa [iv, hzl] using hown)
      have HALL := Lib.hid (And.intro hbad (And.intro hB hRd))
      have HZL := Lib.hid hzl
      have hlt3 : ¬ (A.length : Int) < (A.length : Int) := by omega
      clear hown hbad hB hsz hrel hRd hzl hlt2
      go_wp2_with fail
      obtain ⟨hbad, hB, hRd⟩ := HALL.out
      refine (new_fq room (.slice ao A.length c) (zsOf A A.length) wr hRd (by rw [HZL.out]; omega)).mono ?_
      rintro e w1 ⟨b, rfl, hq, hg⟩
      have T1 : Turn [] wr w1 := Turn.of_none hg
      have B1 : Below w.heap.size w w1 := hB.trans (T1.below hB.size (by simp))
      have hbad1 := hbad.turn T1 (by simp)
      have hwlt : w.heap.size < wr.heap.size := by obtain ⟨cs, h, _⟩ := hbad; exact lt_of h
      have HQ := Lib.hid (And.intro hq hwlt)
      have HB1 := Lib.hid (And.intro B1 hbad1)
      unfold theDisk
      clear hq hg T1 hbad hB hRd HALL hbad1 B1 hwlt
      go_wp2_with fail
      cases b1 : badOf A A.length 1 with
      | true =>
        refine (create_io _ b [] room 0 _ xName w1 HQ.out.1 (by omega) (by rw [show ((0 : Int) + 1) = ((1 : Nat) : Int) from rfl, zs_bad]; exact b1)).mono ?_
        rintro e w2 ⟨rfl, hq2, hb2⟩
        have hbad2 := HB1.out.2.below hb2 HQ.out.2
        have hc1 := (hbad2.cell 1 (by omega)).1
        rw [b1] at hc1
        have HQ2 := Lib.hid (And.intro hq2 (And.intro (HB1.out.1.trans (hb2.mono (by have := HQ.out.2; omega))) HQ.out.2))
        clear hq2 hb2 hbad2 HQ HB1
        go_wp2_with (go_at_call 26; refine (num_any _ _).mono ?_; rintro e w' ⟨rfl, rfl⟩)
        cases b2 : badOf A A.length 2 with
        | true =>
          refine (append_io _ b _ room _ _ xName none 0 0 w2 HQ2.out.1 (by omega) (by rw [show ((0 : Int) + 1 + 1) = ((2 : Nat) : Int) from rfl, zs_bad]; exact b2)).mono ?_
          rintro e w3 ⟨rfl, _, hb3⟩
          have HB3 := Lib.hid (HQ2.out.2.1.trans (hb3.mono (by have := HQ2.out.2.2; omega)))
          clear hb3 HQ2 hc1
          go_wp2_with (first | (go_at_call 26; refine (num_any _ _).mono ?_; rintro e w' ⟨rfl, rfl⟩) | (go_at_call 13; refine (awake_any _).mono ?_; rintro e w' ⟨rfl, hb9⟩))
          go_ret
          exact ⟨rfl, HB3.out.trans (hb9.mono HB3.out.size)⟩
        | false =>
          refine (append_none _ b _ room _ _ xName none 0 0 w2 HQ2.out.1 (by omega) (by rw [show ((0 : Int) + 1 + 1) = ((2 : Nat) : Int) from rfl, zs_bad]; exact b2) rfl (by unfold maxLen; decide)).mono ?_
          rintro e w3 ⟨rfl, _, hb3⟩
          have HB3 := Lib.hid (HQ2.out.2.1.trans (hb3.mono (by have := HQ2.out.2.2; omega)))
          clear hb3 HQ2 hc1
          go_wp2_with (first | (go_at_call 26; refine (num_any _ _).mono ?_; rintro e w' ⟨rfl, rfl⟩) | (go_at_call 13; refine (awake_any _).mono ?_; rintro e w' ⟨rfl, hb9⟩))
          go_ret
          exact ⟨rfl, HB3.out.trans (hb9.mono HB3.out.size)⟩
      | false =>
        refine (create_fq _ b room 0 _ xName w1 HQ.out.1 (by omega) (by kernel_rfl) (by unfold maxLen; decide) (by rw [show ((0 : Int) + 1) = ((1 : Nat) : Int) from rfl, zs_bad]; exact b1)).mono ?_
        rintro e w2 ⟨rfl, hq2, hb2⟩
        have hbad2 := HB1.out.2.below hb2 HQ.out.2
        have hc1 := (hbad2.cell 1 (by omega)).1
        rw [b1] at hc1
        have HQ2 := Lib.hid (And.intro hq2 (And.intro (HB1.out.1.trans (hb2.mono (by have := HQ.out.2; omega))) (And.intro hbad2 HQ.out.2)))
        clear hq2 hb2 hbad2 HQ HB1
        go_wp2_with (go_at_call 26; refine (num_any _ _).mono ?_; rintro e w' ⟨rfl, rfl⟩)
        generalize wr.heap.size = bs0 at HQ2
        go_loopw [9, 10] (fun nv iv' wq => ∃ i n : Nat, 2 ≤ i ∧ i ≤ 60 ∧ n ≤ 1000 ∧ iv' = .int .i64 i ∧ nv = .int .i64 n ∧ Hid (∃ L sy, L.length = n ∧ Fq wq bs0 b [([120], L, sy)] room ((i : Int) - 1) (zsOf A A.length) ∧ Below w.heap.size w wq ∧ BadAt wq w.heap.size A A.length ∧ w.heap.size < bs0))
          (fun _ iv' _ => 60 - (intOf iv').toNat)
        case atStart => exact ⟨2, 0, by omega, by omega, by omega, rfl, rfl, Lib.hid ⟨[], 0, rfl, HQ2.out.1, HQ2.out.2.1, HQ2.out.2.2.1, HQ2.out.2.2.2⟩⟩
        case round =>
          obtain ⟨i, n, hi2, hi60, hn, rfl, rfl, hrel⟩ := hrel
          obtain ⟨L, sy, hL, hrest⟩ := hrel.out
          have HK := Lib.hid hrest
          have hbl : b < wr.heap.size := hrest.1.lt.1
          clear HQ2 hc1 hrest hrel
          by_cases hlt5 : i < 60
          · have kc := fun (w : World) (C : Array Value) (n c : Nat) => Lib.run_convert_bytes_const (P := Try.prog) w 33 5 C n c Try.underlying33 Try.underlying5
            have ta : Turn [] wr (wr.alloc (.cells #[.int .u8 97, .int .u8 98, .int .u8 99, .int .u8 100, .int .u8 101, .int .u8 102, .int .u8 103] 5 (7, 8))) := (Turn.refl [] wr).alloc _
            have hv : Reads (wr.alloc (.cells #[.int .u8 97, .int .u8 98, .int .u8 99, .int .u8 100, .int .u8 101, .int .u8 102, .int .u8 103] 5 (7, 8))) (.slice (some ⟨wr.heap.size, 0, none⟩) 7 7) (bv [97, 98, 99, 100, 101, 102, 103]) := Reads.lit wr (bv [97, 98, 99, 100, 101, 102, 103]) 5 (7, 8) 7 rfl
            go_wp2_with fail
            cases bi : badOf A A.length i with
            | true =>
              refine (append_io _ b _ room _ _ xName _ 7 7 _ (HK.out.1.new ta) (by omega) (by rw [show ((i : Int) - 1 + 1) = ((i : Nat) : Int) by omega, zs_bad]; exact bi)).mono ?_
              rintro e w3 ⟨rfl, hq3, hb3⟩
              have HH := Lib.hid (And.intro hq3 (And.intro ((HK.out.2.1.trans (ta.below HK.out.2.1.size (by simp))).trans (hb3.mono (by have := HK.out.2.2.2; omega))) ((HK.out.2.2.1.turn ta (by simp)).below hb3 HK.out.2.2.2)))
              have hci := (HH.out.2.2.cell i (by omega)).1
              rw [bi] at hci
              have HV := HK.out.2.2.2
              clear hq3 hb3 ta hv HK
              go_wp2_with (go_at_call 26; refine (num_any _ _).mono ?_; rintro e w' ⟨rfl, rfl⟩)
              go_roundw
              case rel => exact ⟨i + 1, n, by omega, by omega, by omega, by go_num, by go_num, Lib.hid ⟨L, sy, by simp [hL], by rw [show (((i + 1 : Nat) : Int) - 1) = ((i : Int) - 1) + 1 by omega]; exact HH.out.1, HH.out.2.1, HH.out.2.2, HV⟩⟩
              case measure => simp [intOf]; omega
            | false =>
              by_cases hfull : room < n + 7
              · have hf2 : (room : Int) < (n : Int) + 7 := by omega
                refine (append_full _ b _ [120] L sy room _ _ xName _ 7 7 _ (HK.out.1.new ta) (by omega) (by rw [show ((i : Int) - 1 + 1) = ((i : Nat) : Int) by omega, zs_bad]; exact bi) rfl (by unfold maxLen; decide) (by simp [tot]; omega) (by simp [tot]; omega)).mono ?_
                rintro e w3 ⟨rfl, hq3, hb3⟩
                have HH := Lib.hid (And.intro hq3 (And.intro ((HK.out.2.1.trans (ta.below HK.out.2.1.size (by simp))).trans (hb3.mono (by have := HK.out.2.2.2; omega))) ((HK.out.2.2.1.turn ta (by simp)).below hb3 HK.out.2.2.2)))
                have hci := (HH.out.2.2.cell i (by omega)).1
                rw [bi] at hci
                have HV := HK.out.2.2.2
                clear hq3 hb3 ta hv HK
                go_wp2_with (go_at_call 26; refine (num_any _ _).mono ?_; rintro e w' ⟨rfl, rfl⟩)
                go_roundw
                case rel => exact ⟨i + 1, n, by omega, by omega, by omega, by go_num, by go_num, Lib.hid ⟨L, sy, by simp [hL], by rw [show (((i + 1 : Nat) : Int) - 1) = ((i : Int) - 1) + 1 by omega]; exact HH.out.1, HH.out.2.1, HH.out.2.2, HV⟩⟩
                case measure => simp [intOf]; omega
              · have hf2 : ¬ (room : Int) < (n : Int) + 7 := by omega
                refine (append_fq _ b _ [120] L sy room _ _ xName _ [97, 98, 99, 100, 101, 102, 103] _ (HK.out.1.new ta) (by omega) (by rw [show ((i : Int) - 1 + 1) = ((i : Nat) : Int) by omega, zs_bad]; exact bi) rfl (by unfold maxLen; decide) hv (fun _ a n c e => by cases e; show wr.heap.size ≠ b; omega) (by simp [tot]; omega) (by simp [tot]; omega)).mono ?_
                rintro e w3 ⟨rfl, hq3, hb3⟩
                have hq3 : Fq w3 bs0 b [([120], L ++ [97, 98, 99, 100, 101, 102, 103], sy)] room ((i : Int) - 1 + 1) (zsOf A A.length) := hq3
                have HH := Lib.hid (And.intro hq3 (And.intro ((HK.out.2.1.trans (ta.below HK.out.2.1.size (by simp))).trans (hb3.mono (by have := HK.out.2.2.2; omega))) ((HK.out.2.2.1.turn ta (by simp)).below hb3 HK.out.2.2.2)))
                have hci := (HH.out.2.2.cell i (by omega)).1
                rw [bi] at hci
                have HV := HK.out.2.2.2
                clear hq3 hb3 ta hv HK
                go_wp2_with (go_at_call 26; refine (num_any _ _).mono ?_; rintro e w' ⟨rfl, rfl⟩)
                go_roundw
                case rel => exact ⟨i + 1, n + 7, by omega, by omega, by omega, by go_num, by go_num, Lib.hid ⟨L ++ [97, 98, 99, 100, 101, 102, 103], sy, by simp [hL], by rw [show (((i + 1 : Nat) : Int) - 1) = ((i : Int) - 1) + 1 by omega]; exact HH.out.1, HH.out.2.1, HH.out.2.2, HV⟩⟩
                case measure => simp [intOf]; omega
          · obtain rfl : i = 60 := by omega
            refine ?_
            go_wp2_with fail
            refine (read_fq _ b _ [120] L sy room _ _ xName wr HK.out.1 rfl (by unfold maxLen; decide) (by omega)).mono ?_
            rintro e w3 ⟨ao3, c3, rfl, hg3⟩
            have HB3 := Lib.hid (HK.out.2.1.trans ((Turn.of_none (F := []) hg3).below HK.out.2.1.size (by simp)))
            rw [hL]
            clear hg3 HK
            go_wp2_with (first | (go_at_call 26; refine (num_any _ _).mono ?_; rintro e w' ⟨rfl, rfl⟩) | (go_at_call 13; refine (awake_any _).mono ?_; rintro e w' ⟨rfl, hb9⟩))
            go_ret
            exact ⟨rfl, HB3.out.trans (hb9.mono HB3.out.size)⟩

set_option maxHeartbeats 1000000 in
set_option maxRecDepth 100000 in
theorem fails_big (ao : Option Addr) (l c : Nat) (room : Int) (w : World) (h : 50 < l) (hm : l ≤ maxLen) :
    Calls Try.prog 6 #[.slice ao l c, .int .u8 room] w fun e w' => e = .returned (.bool true) ∧ Below w.heap.size w w' := by
  unfold maxLen at hm
  have k1 : (50 : Int) < (l : Int) := by omega
  go_enter Try.func6, Try.ntmps6
  go_wp2_with (go_at_call 13; refine (awake_any _).mono ?_; rintro e w' ⟨rfl, hb9⟩)
  go_ret
  exact ⟨rfl, hb9⟩

end Go.Proofs.Ytpojdjigckeccaa
