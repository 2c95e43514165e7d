/- While a log is not sick, its disk is up, and has the log's file, as long as the log says: plain facts. Numbers and types by name. -/
import Derived.Test.YthacjeeafnblmaaGreatDoorOws
import Derived.Test.YthacjeeafnblmaaGreatDoorTxt
import Derived.Test.YthacjeeafnblmaaGreatDoorWpl
/- The reference's Scan. Numbers and types by name. -/
namespace Go.Proofs.YthacjeeafnblmaaGreatDoor
open Go.RowKit Go.Lib

theorem one_drop {b : List UInt8} {k : Nat} (h : k + 8 ≤ b.length) (q s : Nat) (hq : numOf ((b.drop k).take 4) = q) (hs : numOf ((b.drop (k + 4)).take 4) = s) :
    one? (b.drop k) = if q ≤ 1048576 ∧ q ≤ b.length - (k + 8) ∧ sumOf 0 ((b.drop (k + 8)).take q) = s then some ((b.drop (k + 8)).take q, b.drop (k + 8 + q)) else none := by
  have h1 := num_drop (l := b) (k := k) (by omega)
  have h2 := num_drop (l := b) (k := k + 4) (by omega)
  rw [hq, Int.toNat_natCast] at h1
  rw [hs, Int.toNat_natCast] at h2
  unfold one?
  rw [h1]
  simp only
  rw [h2]
  simp only [List.length_drop, List.drop_drop]
theorem one_short {b : List UInt8} {k : Nat} (h : ¬ k + 8 ≤ b.length) : one? (b.drop k) = none := by
  unfold one?
  by_cases h4 : k + 4 ≤ b.length
  · rw [num_drop h4]
    simp only
    rw [num_drop_no (by omega)]
  · rw [num_drop_no h4]

/-- What Scan leaves. -/
def ScanDone (b : List UInt8) (w : World) (e : Ending) (w' : World) : Prop :=
  Below w.heap.size w w' ∧ ∃ l n ao c, Scans b l n ∧ n ≤ b.length ∧ e = .returned (.tuple #[.slice ao l.length c, .int .i64 ((n : Nat) : Int)]) ∧ Ows w' w.heap.size (.slice ao l.length c) l.length l

/-- What is known at a round's beginning. -/
def ScanAt (b : List UInt8) (w wr : World) (lv : Value) (k m : Nat) : Prop :=
  ∃ ao j c ps, lv = .slice ao j c ∧ Ows wr w.heap.size (.slice ao j c) j ps ∧ Below w.heap.size w wr ∧ k ≤ m ∧ 8 * j ≤ k ∧ ∀ l n, Scans (b.drop k) l n → Scans b (ps ++ l) (k + n)

theorem scan_stops {b : List UInt8} {w wr : World} {lv : Value} {k m : Nat} (h : ScanAt b w wr lv k m) (hm : m = b.length) (h0 : one? (b.drop k) = none) (w' : World) (hg : Grow wr w') : ScanDone b w (.returned (.tuple #[lv, .int .i64 (k : Int)])) w' := by
  obtain ⟨ao, j, c, ps, rfl, ho, hb, hk, _, hs⟩ := h
  have hj := ho.1
  subst hj
  have := hs [] 0 (.stop h0)
  rw [List.append_nil, Nat.add_zero] at this
  exact ⟨hb.trans (hg.mono hb.size), ps, k, ao, c, this, by omega, rfl, ho.later hg⟩

set_option maxHeartbeats 4000000 in
theorem ref_scan (v : Value) (m : Nat) (b : List UInt8) (w : World) (hr : Reads w v (bv b)) (hm : m = b.length) (hl : Hid (m ≤ 1000000000)) :
    Calls Tryz.prog 26 #[v] w (ScanDone b w) := by
  obtain ⟨ao, c, rfl⟩ : ∃ ao c, v = .slice ao m c := by obtain ⟨ao, c, rfl, _⟩ := hr; exact ⟨ao, c, by rw [bv_length, hm]⟩
  have HR := Lib.hid hr
  have HM := Lib.hid hm
  clear hr hm
  go_enter Tryz.func26, Tryz.ntmps26
  go_wp2_with fail
  go_loopw [4, 5] (fun lv gv wr => ∃ k : Nat, gv = .int .i64 k ∧ Hid (ScanAt b w wr lv k m))
    (fun _ gv _ => m + 8 - (RowKit.intOf gv).toNat)
  case atStart => exact ⟨0, rfl, Lib.hid ⟨none, 0, 0, [], rfl, Ows.nil _ _, Below.refl _ _, Nat.zero_le _, by omega, fun l n h => by simpa using h⟩⟩
  case round =>
    obtain ⟨k, rfl, hrel⟩ := hrel
    have hkm : k ≤ m := by obtain ⟨_, _, _, _, _, _, _, h, _⟩ := hrel.out; exact h
    have hbel : Below w.heap.size w wr := by obtain ⟨_, _, _, _, _, _, h, _⟩ := hrel.out; exact h
    have hrr := HR.out.later hbel
    have hl' := hl.out
    by_cases h4 : k + 4 ≤ m
    · by_cases h8 : k + 8 ≤ m
      · obtain ⟨q, hq⟩ : ∃ q : Nat, numOf ((b.drop k).take 4) = q := ⟨_, (Int.toNat_of_nonneg (numOf_bound _).1).symm⟩
        obtain ⟨s, hs⟩ : ∃ s : Nat, numOf ((b.drop (k + 4)).take 4) = s := ⟨_, (Int.toNat_of_nonneg (numOf_bound _).1).symm⟩
        have hone := one_drop (b := b) (k := k) (by have := HM.out; omega) q s hq hs
        rw [← HM.out] at hone
        have G1 := ref_get_in _ m b k wr hrr HM.out hl h4
        rw [hq] at G1
        have hG2 : ∀ w2, Grow wr w2 → Calls Tryz.prog 54 #[.slice ao m c, .int .i64 ((k : Int) + 4)] w2 fun e w' => e = .returned (.tuple #[.int .i64 s, .bool true]) ∧ ∃ j, w' = w2.drewN j := fun w2 hg => by
          have := ref_get_in _ m b (k + 4) w2 (hrr.later hg) HM.out hl (by omega)
          rw [hs, show (((k + 4 : Nat)) : Int) = (k : Int) + 4 by omega] at this
          exact this
        have HONE := Lib.hid hone
        have HGG := Lib.hid hG2
        clear hq hs hone hG2
        by_cases c1 : 1048576 < q
        · have c1' : (1048576 : Int) < (q : Int) := by omega
          have HS := Lib.hid (scan_stops hrel.out HM.out (by rw [HONE.out, if_neg (by omega)]))
          clear hrel
          go_wp2_with fail
          refine G1.mono ?_
          rintro e w2 ⟨rfl, j2, hw2⟩
          have hg2 : Grow wr w2 := by rw [hw2]; exact ⟨rfl, rfl, rfl, Nat.le_refl _, fun _ _ => rfl⟩
          have G2 := HGG.out w2 hg2
          clear G1 hw2
          go_wp2_with fail
          refine G2.mono ?_
          rintro e w3 ⟨rfl, j3, hw3⟩
          have hg3 : Grow wr w3 := hg2.trans (by rw [hw3]; exact ⟨rfl, rfl, rfl, Nat.le_refl _, fun _ _ => rfl⟩)
          have HG := Lib.hid hg3
          clear G2 hw3 hg2 hg3
          go_wp2_with fail
          go_ret2
          exact HS.out _ HG.out
        · have c1' : ¬ (1048576 : Int) < (q : Int) := by omega
          by_cases c2 : m - (k + 8) < q
          · have c2' : (m : Int) - (k : Int) - 8 < (q : Int) := by omega
            have HS := Lib.hid (scan_stops hrel.out HM.out (by rw [HONE.out, if_neg (by omega)]))
            clear hrel
            go_wp2_with fail
            refine G1.mono ?_
            rintro e w2 ⟨rfl, j2, hw2⟩
            have hg2 : Grow wr w2 := by rw [hw2]; exact ⟨rfl, rfl, rfl, Nat.le_refl _, fun _ _ => rfl⟩
            have G2 := HGG.out w2 hg2
            clear G1 hw2
            go_wp2_with fail
            refine G2.mono ?_
            rintro e w3 ⟨rfl, j3, hw3⟩
            have hg3 : Grow wr w3 := hg2.trans (by rw [hw3]; exact ⟨rfl, rfl, rfl, Nat.le_refl _, fun _ _ => rfl⟩)
            have HG := Lib.hid hg3
            clear G2 hw3 hg2 hg3
            go_wp2_with fail
            go_ret2
            exact HS.out _ HG.out
          · have c2' : ¬ (m : Int) - (k : Int) - 8 < (q : Int) := by omega
            obtain ⟨a, rfl⟩ : ∃ a, ao = some a := by
              obtain ⟨ao', c', e, _, hn0, _⟩ := HR.out
              cases ao with
              | some a => exact ⟨a, rfl⟩
              | none =>
                simp only [Value.slice.injEq] at e
                have := (hn0 e.1.symm).1
                have : b = [] := by simpa [bv] using this
                have hm := HM.out
                subst this; simp at hm; omega
            have hmc : m ≤ c := by
              obtain ⟨_, _, e, h0, _⟩ := HR.out
              simp only [Value.slice.injEq, bv_length] at e h0
              have := HM.out
              omega
            obtain ⟨k8, hk8⟩ : ∃ k8, k8 = k + 8 := ⟨_, rfl⟩
            obtain ⟨bz, hbz, jz⟩ : ∃ bz, (if c = k8 then some a else some (a.add k8)) = some bz ∧ (bz = a.add k8 ∨ b.length = k8) := by
              by_cases h : c = k8
              · exact ⟨a, if_pos h, .inr (by have := HM.out; omega)⟩
              · exact ⟨a.add k8, if_neg h, .inl rfl⟩
            have HRD : Hid (∀ w2, Grow wr w2 → Reads w2 (.slice (some bz) q (c - k8)) (bv ((b.drop k8).take q))) := Lib.hid fun w2 hg => ((hrr.later hg).drop k8 (by omega) bz jz).prefix q (by omega)
            have e8 : (k : Int) + 8 = (k8 : Int) := by omega
            have x1 : (k8 : Int) + (q : Int) ≤ (c : Int) := by omega
            have x2 : k8 ≤ k8 + q := by omega
            have x3 : k8 + q ≤ c := by omega
            have HX := Lib.hid (And.intro hk8 (And.intro h8 (And.intro c2 hmc)))
            rw [← hk8] at HONE
            have u9 : wrap64 ((k8 : Int) + (q : Int)) = ((k8 + q : Nat) : Int) := by rw [wrap64_id _ (by omega)]; omega
            have HU9 := Lib.hid u9
            clear u9 hk8 jz
            by_cases hsum : sumOf 0 ((b.drop k8).take q) = (s : Int)
            · have hsum2 : (sumOf 0 ((b.drop k8).take q) != (s : Int)) = false := by simpa using hsum
              obtain ⟨aL, j, cL, ps, rfl, ho, _, _, hjk, hscan⟩ := hrel.out
              have HO := Lib.hid (And.intro ho (And.intro hjk hscan))
              have HONE2 : Hid (one? (b.drop k) = some ((b.drop k8).take q, b.drop (k8 + q))) := Lib.hid (by rw [HONE.out, if_pos ⟨by omega, by omega, hsum⟩])
              have FL : Hid (j + 1 ≤ 1000000000) := Lib.hid (by omega)
              have F1 : Hid (q ≤ maxLen) := Lib.hid (by unfold maxLen; omega)
              have F2 : Hid (q * 1 ≤ 140737488355328) := Lib.hid (by omega)
              have HBEL := Lib.hid hbel
              have hlen : Hid (q = ((b.drop k8).take q).length) := Lib.hid (by have := HX.out; have := HM.out; rw [List.length_take, List.length_drop]; omega)
              clear hrel ho hjk hscan
              go_wp2_with fail
              refine G1.mono ?_
              rintro e w2 ⟨rfl, j2, hw2⟩
              have hg2 : Grow wr w2 := by rw [hw2]; exact ⟨rfl, rfl, rfl, Nat.le_refl _, fun _ _ => rfl⟩
              have G2 := HGG.out w2 hg2
              clear G1 hw2
              go_wp2_with fail
              refine G2.mono ?_
              rintro e w3 ⟨rfl, j3, hw3⟩
              have hg3 : Grow wr w3 := hg2.trans (by rw [hw3]; exact ⟨rfl, rfl, rfl, Nat.le_refl _, fun _ _ => rfl⟩)
              have C5 := ref_sum _ q _ w3 (HRD.out w3 hg3) hlen.out (Lib.hid (by omega))
              have HG := Lib.hid hg3
              clear G2 hw3 hg2 hg3
              go_wp2_with fail
              refine C5.mono ?_
              rintro e w4 ⟨rfl, hw4⟩
              subst hw4
              clear C5
              have RD := HRD.out w4 HG.out
              have O4 := HO.out.1.later HG.out
              have B4 : Below w.heap.size w w4 := HBEL.out.trans (HG.out.mono HBEL.out.size)
              have HP := Lib.hid (And.intro RD (And.intro O4 B4))
              clear RD O4 B4
              have hapF : Hid (∀ (w5 : World) (ao5 : Option Addr) (q5 c5 : Nat) (l5 : List UInt8) (o : Obj), Bs w5 w4.heap.size (.slice ao5 q5 c5) q5 l5 → ∀ a, ao5 = some a → some a.block ≠ (Value.slice aL j cL).ownBlock ∧ a.block < (w5.alloc o).heap.size) := Lib.hid fun w5 ao5 q5 c5 l5 o h a ha => by
                subst ha
                have h1 := h.2.lt a.block rfl
                refine ⟨fun e => ?_, by simp; omega⟩
                obtain ⟨_, vs, h2, _⟩ := HP.out.2.1
                have := (h2.lt a.block e.symm).2
                omega
              go_wp2_with (first | (at_builtin; (refine wpList_append_bytes rfl (.tmp 58) (.tmp 66) rfl w4.heap.size _ 0 [] rfl (Bs.empty w4 w4.heap.size (Nat.le_refl _)) (.slice (some bz) q (c - k8)) q _ hlen.out (by first | rfl | simp [Act.eval]) (HP.out.1.alloc _) q (Nat.zero_add q).symm F1 F2 (by simp) ?_); intro ao5 c5 w5 hown5 hb5) | (at_builtin; refine wpList_append_row rfl (.tmp 57) (.tmp 68) rfl w.heap.size (.slice aL j cL) j ps rfl ((HP.out.2.1.later (((Below.refl _ w4).alloc (Nat.le_refl _) _).trans hb5)).later ((Below.refl _ w5).alloc (Nat.le_refl _) _)) ⟨w5.heap.size, 0, none⟩ _ q ao5 c5 hown5.1 rfl (by rw [World.cell?_alloc_mark]; rfl) (hown5.alloc _).reads (hapF.out w5 ao5 q c5 _ _ hown5) F1 (j + 1) rfl FL (Nat.le_trans (Nat.le_trans HP.out.2.2.size (((Below.refl _ w4).alloc (Nat.le_refl _) _).trans hb5 |>.size)) (by simp)) ?_; intro ao6 c6 w6 hown6 hb6))
              have hx := HX.out
              have hb3 : Below w.heap.size w w6 := (HP.out.2.2.trans ((((Below.refl _ w4).alloc (Nat.le_refl _) _).trans hb5).mono HP.out.2.2.size)).trans (((Below.refl _ w5).alloc (Nat.le_trans HP.out.2.2.size (((Below.refl _ w4).alloc (Nat.le_refl _) _).trans hb5 |>.size)) _).trans hb6)
              have hjk := HO.out.2.1
              refine ⟨⟨k8 + q, by simp, Lib.hid ⟨ao6, j + 1, c6, _, rfl, hown6, hb3, by omega, by omega, fun l n h => ?_⟩⟩, by simp only [RowKit.intOf]; omega⟩
              have h2 := HO.out.2.2 _ _ (.more HONE2.out h)
              rw [← hlen.out, show k + (8 + q + n) = k8 + q + n by omega] at h2
              simpa using h2
            · have hsum2 : (sumOf 0 ((b.drop k8).take q) != (s : Int)) = true := by simpa using hsum
              have HS := Lib.hid (scan_stops hrel.out HM.out (by rw [HONE.out, if_neg (fun h => hsum h.2.2)]))
              clear hrel
              go_wp2_with fail
              refine G1.mono ?_
              rintro e w2 ⟨rfl, j2, hw2⟩
              have hg2 : Grow wr w2 := by rw [hw2]; exact ⟨rfl, rfl, rfl, Nat.le_refl _, fun _ _ => rfl⟩
              have G2 := HGG.out w2 hg2
              clear G1 hw2
              go_wp2_with fail
              refine G2.mono ?_
              rintro e w3 ⟨rfl, j3, hw3⟩
              have hg3 : Grow wr w3 := hg2.trans (by rw [hw3]; exact ⟨rfl, rfl, rfl, Nat.le_refl _, fun _ _ => rfl⟩)
              have C5 := ref_sum _ q _ w3 (HRD.out w3 hg3) (by have := HX.out; have := HM.out; rw [List.length_take, List.length_drop]; omega) (Lib.hid (by omega))
              have HG := Lib.hid hg3
              clear G2 hw3 hg2 hg3
              go_wp2_with fail
              refine C5.mono ?_
              rintro e w4 ⟨rfl, hw4⟩
              subst hw4
              clear C5
              go_wp2_with fail
              go_ret2
              exact HS.out _ HG.out
      · have h0 := one_short (b := b) (k := k) (by have := HM.out; omega)
        have G1 := ref_get_in _ m b k wr hrr HM.out hl h4
        have HS := Lib.hid (scan_stops hrel.out HM.out h0)
        clear h0 hrel
        go_wp2_with fail
        refine G1.mono ?_
        rintro e w2 ⟨rfl, j2, hw2⟩
        have hg2 : Grow wr w2 := by rw [hw2]; exact ⟨rfl, rfl, rfl, Nat.le_refl _, fun _ _ => rfl⟩
        have G2 := ref_get_out _ m b ((k : Int) + 4) w2 (hrr.later hg2) HM.out hl (by omega)
        have HG := Lib.hid hg2
        clear hw2 hg2 G1
        go_wp2_with fail
        refine G2.mono ?_
        rintro e w3 ⟨rfl, hw3⟩
        subst hw3
        clear G2
        go_wp2_with fail
        go_ret2
        exact HS.out _ HG.out
    · have h0 := one_short (b := b) (k := k) (by have := HM.out; omega)
      have G1 := ref_get_out _ m b (k : Int) wr hrr HM.out hl (by omega)
      have HS := Lib.hid (scan_stops hrel.out HM.out h0)
      have hg2 : ∃ x : Int × Bool, ∃ j2, True := ⟨(0, true), 0, trivial⟩
      clear h0 hrel hg2
      have C2 : ∃ x ok, Calls Tryz.prog 54 #[.slice ao m c, .int .i64 ((k : Int) + 4)] wr fun e w' => e = .returned (.tuple #[.int .i64 x, .bool ok]) ∧ ∃ j, w' = wr.drewN j := ⟨0, false, (ref_get_out _ m b ((k : Int) + 4) wr hrr HM.out hl (by omega)).mono fun e w' h => ⟨h.1, 0, h.2⟩⟩
      obtain ⟨x, ok, C2⟩ := C2
      go_wp2_with fail
      refine G1.mono ?_
      rintro e w2 ⟨rfl, hw2⟩
      subst hw2
      clear G1
      go_wp2_with fail
      refine C2.mono ?_
      rintro e w3 ⟨rfl, j3, hw3⟩
      clear C2
      go_wp2_with fail
      go_ret2
      subst hw3
      exact HS.out _ ⟨rfl, rfl, rfl, Nat.le_refl _, fun _ _ => rfl⟩

end Go.Proofs.YthacjeeafnblmaaGreatDoor

namespace Go.Proofs.YthacjeeafnblmaaGreatDoor
open Go.RowKit Go.Lib

/-- What a writing call may do to a disk that is up. -/
theorem act_cases {M : MD} (hd : M.dw = false) (op : Opn) :
    ((M.act op).1 = 7 ∧ (M.act op).2.dw = true ∧ ((M.act op).2.fs = M.fs ∨ (M.act op).2.fs = (op M.cap M.fs).2)) ∨
    ((M.act op).1 = 6 ∧ (M.act op).2.dw = false ∧ (M.act op).2.fs = M.fs ∧ (M.act op).2.cap = M.cap) ∨
    ((M.act op).1 = (op M.cap M.fs).1 ∧ (M.act op).2.dw = false ∧ (M.act op).2.fs = (op M.cap M.fs).2 ∧ (M.act op).2.cap = M.cap) := by
  unfold MD.act
  rw [if_neg (by simp [hd])]
  by_cases h1 : M.n + 1 = M.cr
  · rw [if_pos h1]
    refine .inl ⟨rfl, rfl, ?_⟩
    show (if M.dn = true then _ else _) = _ ∨ (if M.dn = true then _ else _) = _
    split
    · exact .inr rfl
    · exact .inl rfl
  · rw [if_neg h1]
    by_cases h2 : M.fail.contains (M.n + 1) = true
    · rw [if_pos h2]
      exact .inr (.inl ⟨rfl, hd, rfl, rfl⟩)
    · rw [if_neg h2]
      exact .inr (.inr ⟨rfl, hd, rfl, rfl⟩)

theorem find_updE {k : List UInt8} {u : Ent → Ent} (hu : ∀ x, (u x).1 = x.1) (fs : List Ent) : (updE k u fs).find? (isName k) = (fs.find? (isName k)).map u := by
  induction fs with
  | nil => rfl
  | cons y l ih =>
    have e : updE k u (y :: l) = (if isName k y = true then u y else y) :: updE k u l := by simp [updE]
    rw [e]
    by_cases hy : isName k y = true
    · have hu' : isName k (u y) = true := by rw [isName_iff, hu]; exact isName_iff.1 hy
      rw [if_pos hy, List.find?_cons_of_pos hu', List.find?_cons_of_pos hy]
      rfl
    · rw [if_neg hy, List.find?_cons_of_neg hy, List.find?_cons_of_neg hy, ih]

/-- The log's file is there, n bytes long. -/
def Long (fs : List Ent) (n : Nat) : Prop := ∃ x, fs.find? (isName logK) = some x ∧ x.2.1.length = n
/-- The disk is up, and has it. -/
def Has (M : MD) (n : Nat) : Prop := M.dw = false ∧ Long M.fs n
/-- Where the log is not sick. -/
def Fits (M : MD) (n : Nat) (s : Bool) : Prop := s = false → Has M n

theorem fits_sick {M : MD} {n : Nat} : Fits M n true := fun h => by cases h
theorem Has.read {M : MD} {n : Nat} (h : Has M n) : (M.read logK).2 = 0 ∧ (M.read logK).1.length = n := by
  obtain ⟨h1, x, h2, h3⟩ := h
  unfold MD.read
  rw [if_neg (by simp [h1]), h2]
  exact ⟨rfl, h3⟩
theorem has_read {M : MD} (h : (M.read logK).2 = 0) : Has M (M.read logK).1.length := by
  unfold MD.read at *
  by_cases hd : M.dw = true
  · rw [if_pos hd] at h; cases h
  · rw [if_neg hd] at h ⊢
    have hd' : M.dw = false := by simpa using hd
    split at h
    · cases h
    · rename_i x hx
      exact ⟨hd', x, hx, rfl⟩

theorem long_append {fs : List Ent} {n : Nat} (h : Long fs n) (l : List UInt8) (cap : Int) : ((opAppend logK l cap fs).1 = 5 ∧ (opAppend logK l cap fs).2 = fs) ∨ ((opAppend logK l cap fs).1 = 0 ∧ Long (opAppend logK l cap fs).2 (n + l.length)) := by
  obtain ⟨x, hx, rfl⟩ := h
  unfold opAppend
  rw [hx]
  simp only
  split
  · exact .inl ⟨rfl, rfl⟩
  · refine .inr ⟨rfl, (x.1, x.2.1 ++ l, x.2.2), ?_, ?_⟩
    · show (updE logK (fun x => (x.1, x.2.1 ++ l, x.2.2)) fs).find? (isName logK) = _
      rw [find_updE (u := fun x => (x.1, x.2.1 ++ l, x.2.2)) (fun _ => rfl), hx]; rfl
    · simp
theorem long_sync {fs : List Ent} {n : Nat} (h : Long fs n) (cap : Int) : (opSync logK cap fs).1 = 0 ∧ Long (opSync logK cap fs).2 n := by
  obtain ⟨x, hx, rfl⟩ := h
  unfold opSync
  rw [hx]
  refine ⟨rfl, (x.1, x.2.1, x.2.1.length), ?_, rfl⟩
  show (updE logK (fun x => (x.1, x.2.1, x.2.1.length)) fs).find? (isName logK) = _
  rw [find_updE (u := fun x => (x.1, x.2.1, x.2.1.length)) (fun _ => rfl), hx]; rfl
theorem long_cut {fs : List Ent} {m : Nat} (h : Long fs m) (n : Nat) (hn : n ≤ m) (cap : Int) : (opCut logK n cap fs).1 = 0 ∧ Long (opCut logK n cap fs).2 n := by
  obtain ⟨x, hx, rfl⟩ := h
  unfold opCut
  rw [hx]
  simp only
  rw [if_neg (by omega)]
  refine ⟨rfl, (x.1, x.2.1.take (n : Int).toNat, min x.2.2 (n : Int).toNat), ?_, ?_⟩
  · show (updE logK (fun x => (x.1, x.2.1.take (n : Int).toNat, min x.2.2 (n : Int).toNat)) fs).find? (isName logK) = _
    rw [find_updE (u := fun x => (x.1, x.2.1.take (n : Int).toNat, min x.2.2 (n : Int).toNat)) (fun _ => rfl), hx]; rfl
  · show (x.2.1.take (n : Int).toNat).length = n
    rw [List.length_take]; omega
theorem long_create {fs : List Ent} (h : Rising fs) (cap : Int) (h0 : (opCreate logK cap fs).1 = 0) : Long (opCreate logK cap fs).2 0 := by
  unfold opCreate at *
  rw [if_neg (by simp [logK])] at h0 ⊢
  by_cases ha : fs.any (isName logK) = true
  · rw [if_pos ha] at h0; cases h0
  · rw [if_neg ha]
    refine ⟨(logK, [], 0), ?_, rfl⟩
    have hr : Rising (insE (logK, [], 0) fs) := insE_rising h (by simpa using ha)
    exact find_self hr (x := (logK, [], 0)) ((insE_perm _ fs).mem_iff.2 (by simp))

theorem has_cut {M : MD} {m : Nat} (h : Has M m) (n : Nat) (hn : n ≤ m) (h0 : (M.act (opCut logK n)).1 = 0) : Has (M.act (opCut logK n)).2 n := by
  rcases act_cases h.1 (opCut logK n) with ⟨a1, _⟩ | ⟨a1, _⟩ | ⟨a1, a2, a3, _⟩
  · rw [h0] at a1; cases a1
  · rw [h0] at a1; cases a1
  · refine ⟨a2, ?_⟩
    rw [a3]; exact (long_cut h.2 n hn M.cap).2
theorem has_sync {M : MD} {n : Nat} (h : Has M n) : ((M.act (opSync logK)).1 = 0 → Has (M.act (opSync logK)).2 n) ∧ ((M.act (opSync logK)).1 ≠ 7 → Has (M.act (opSync logK)).2 n) := by
  have key : (M.act (opSync logK)).1 ≠ 7 → Has (M.act (opSync logK)).2 n := by
    intro h7
    rcases act_cases h.1 (opSync logK) with ⟨a1, _⟩ | ⟨_, a2, a3, _⟩ | ⟨_, a2, a3, _⟩
    · exact absurd a1 h7
    · exact ⟨a2, by rw [a3]; exact h.2⟩
    · exact ⟨a2, by rw [a3]; exact (long_sync h.2 M.cap).2⟩
  exact ⟨fun h0 => key (by rw [h0]; decide), key⟩
theorem has_append {M : MD} {n : Nat} (h : Has M n) (l : List UInt8) : ((M.act (opAppend logK l)).1 = 0 → Has (M.act (opAppend logK l)).2 (n + l.length)) ∧ ((M.act (opAppend logK l)).1 ≠ 0 → (M.act (opAppend logK l)).1 ≠ 7 → Has (M.act (opAppend logK l)).2 n) := by
  rcases act_cases h.1 (opAppend logK l) with ⟨a1, _⟩ | ⟨a1, a2, a3, _⟩ | ⟨a1, a2, a3, _⟩
  · exact ⟨(fun h0 => by rw [h0] at a1; cases a1), fun _ h7 => absurd a1 h7⟩
  · exact ⟨(fun h0 => by rw [h0] at a1; cases a1), fun _ _ => ⟨a2, by rw [a3]; exact h.2⟩⟩
  · rcases long_append h.2 l M.cap with ⟨b1, b2⟩ | ⟨b1, b2⟩
    · exact ⟨(fun h0 => by rw [a1, b1] at h0; cases h0), fun _ _ => ⟨a2, by rw [a3, b2]; exact h.2⟩⟩
    · exact ⟨fun _ => ⟨a2, by rw [a3]; exact b2⟩, fun h0 => by rw [a1, b1] at h0; exact absurd rfl h0⟩

theorem fits_commitC {M : MD} {m : Nat} (e : Int) (n : Nat) (h : e ≠ 7 → Has M m) (hn : n ≤ m) : Fits (commitC M e n).M (commitC M e n).n (commitC M e n).s := by
  unfold commitC
  by_cases h7 : e = 7
  · rw [if_pos h7]; exact fits_sick
  · rw [if_neg h7]
    intro h0
    have h0' : (M.act (opCut logK n)).1 = 0 := by
      have : decide ((M.act (opCut logK n)).1 ≠ 0) = false := h0
      simpa using this
    exact has_cut (h h7) n hn h0'
theorem fits_commit {M : MD} {n : Nat} {s : Bool} (h : Fits M n s) (L : List Opm) : Fits (commitP M n s L).M (commitP M n s L).n (commitP M n s L).s := by
  unfold commitP
  cases s with
  | true => rw [if_pos rfl]; exact h
  | false =>
  rw [if_neg (by simp)]
  cases hok : okOps L with
  | false => rw [if_pos rfl]; exact h
  | true =>
  rw [if_neg (by simp)]
  obtain ⟨a1, a2⟩ := has_append (h rfl) (frms (recs L))
  unfold commitA
  by_cases h0 : (M.act (opAppend logK (frms (recs L)))).1 = 0
  · rw [if_pos h0]
    obtain ⟨b1, b2⟩ := has_sync (a1 h0)
    by_cases h1 : ((M.act (opAppend logK (frms (recs L)))).2.act (opSync logK)).1 = 0
    · rw [if_pos h1]
      exact fun _ => b1 h1
    · rw [if_neg h1]
      exact fits_commitC _ n b2 (by omega)
  · rw [if_neg h0]
    exact fits_commitC _ n (a2 h0) (Nat.le_refl _)
theorem fits_reset {M : MD} {n : Nat} {s : Bool} (h : Fits M n s) : Fits (resetP M n s).M (resetP M n s).n (resetP M n s).s := by
  unfold resetP
  cases s with
  | true => rw [if_pos rfl]; exact h
  | false =>
  rw [if_neg (by simp)]
  intro h0
  have h7 : (M.act (opCut logK 0)).1 ≠ 7 := by
    have : decide ((M.act (opCut logK 0)).1 = 7) = false := h0
    simpa using this
  obtain ⟨hd, hl⟩ := h rfl
  have hc := long_cut hl 0 (Nat.zero_le _) M.cap
  have hc' : (opCut logK 0 M.cap M.fs).1 = 0 ∧ Long (opCut logK 0 M.cap M.fs).2 0 := hc
  rcases act_cases hd (opCut logK 0) with ⟨a1, _⟩ | ⟨a1, a2, a3, _⟩ | ⟨a1, a2, a3, _⟩
  · exact absurd a1 h7
  · refine ⟨a2, ?_⟩
    show Long (M.act (opCut logK 0)).2.fs (if (M.act (opCut logK 0)).1 = 0 then 0 else n)
    rw [a3, a1, if_neg (by decide)]; exact hl
  · refine ⟨a2, ?_⟩
    show Long (M.act (opCut logK 0)).2.fs (if (M.act (opCut logK 0)).1 = 0 then 0 else n)
    rw [a3, a1, hc'.1, if_pos rfl]; exact hc'.2

theorem fits_openR {M : MD} {b : List UInt8} (h : Has M (endOf b)) (h0 : (openR M b).e = 0) : Fits (openR M b).M (openR M b).n false := by
  unfold openR at *
  by_cases h1 : (M.act (opSync logK)).1 = 0
  · rw [if_pos h1]
    exact fun _ => (has_sync h).1 h1
  · rw [if_neg h1] at h0
    exact absurd h0 h1
theorem fits_openQ {M : MD} {b : List UInt8} (h : Has M b.length) (he : endOf b ≤ b.length) (h0 : (openQ M b).e = 0) : Fits (openQ M b).M (openQ M b).n false := by
  unfold openQ at *
  by_cases hlt : endOf b < b.length
  · rw [if_pos hlt] at h0 ⊢
    by_cases h1 : (M.act (opCut logK (endOf b))).1 = 0
    · rw [if_pos h1] at h0 ⊢
      exact fits_openR (has_cut h _ he h1) h0
    · rw [if_neg h1] at h0
      exact absurd h0 h1
  · rw [if_neg hlt] at h0 ⊢
    have e : endOf b = b.length := by omega
    exact fits_openR (by rw [e]; exact h) h0
theorem one_whole {b p r : List UInt8} (h : one? b = some (p, r)) : b.length = 8 + p.length + r.length := by
  by_cases h8 : 8 ≤ b.length
  · obtain ⟨q, hq⟩ : ∃ q : Nat, numOf ((b.drop 0).take 4) = q := ⟨_, (Int.toNat_of_nonneg (numOf_bound _).1).symm⟩
    obtain ⟨s, hs⟩ : ∃ s : Nat, numOf ((b.drop (0 + 4)).take 4) = s := ⟨_, (Int.toNat_of_nonneg (numOf_bound _).1).symm⟩
    have h1 := one_drop (b := b) (k := 0) (by omega) q s hq hs
    rw [List.drop_zero] at h1
    rw [h1] at h
    split at h
    · rename_i hc
      simp only [Option.some.injEq, Prod.mk.injEq] at h
      obtain ⟨rfl, rfl⟩ := h
      simp only [List.length_take, List.length_drop]
      omega
    · cases h
  · have h1 := one_short (b := b) (k := 0) (by omega)
    rw [List.drop_zero] at h1
    rw [h1] at h
    cases h
theorem scans_le {b : List UInt8} {l : List (List UInt8)} {n : Nat} (h : Scans b l n) : n ≤ b.length := by
  induction h with
  | stop _ => exact Nat.zero_le _
  | more h0 _ ih => have := one_whole h0; omega
theorem endOf_le (b : List UInt8) : endOf b ≤ b.length := by
  have h1 := scn_spec b
  have h2 := scans_size h1
  have h3 := frms_take (scn b) (usedOf b)
  have h4 := scans_le h1
  unfold endOf
  omega
theorem fits_open {M : MD} (hr : Rising M.fs) (h0 : (openP M).e = 0) : Fits (openP M).M (openP M).n false := by
  unfold openP at *
  by_cases h3 : (M.read logK).2 = 3
  · rw [if_pos h3] at h0 ⊢
    by_cases h1 : (M.act (opCreate logK)).1 = 0
    · rw [if_pos h1] at h0 ⊢
      refine fits_openQ ?_ (endOf_le _) h0
      have hd : M.dw = false := by
        cases hd : M.dw with
        | false => rfl
        | true => unfold MD.read at h3; rw [if_pos hd] at h3; cases h3
      rcases act_cases hd (opCreate logK) with ⟨a1, _⟩ | ⟨a1, _⟩ | ⟨a1, a2, a3, _⟩
      · rw [h1] at a1; cases a1
      · rw [h1] at a1; cases a1
      · refine ⟨a2, ?_⟩
        rw [a3]; exact long_create hr M.cap (by rw [← a1]; exact h1)
    · rw [if_neg h1] at h0
      exact absurd h0 h1
  · rw [if_neg h3] at h0 ⊢
    by_cases h1 : (M.read logK).2 = 0
    · rw [if_pos h1] at h0 ⊢
      exact fits_openQ (has_read h1) (endOf_le _) h0
    · rw [if_neg h1] at h0
      exact absurd h0 h1

end Go.Proofs.YthacjeeafnblmaaGreatDoor
