/- Pairs as bytes: plain facts. Numbers and types by name. -/
import Derived.Test.YthglbmnhlnpmkaaGreatOws
import Derived.Test.YthglbmnhlnpmkaaGreatRdp
import Derived.Test.YthglbmnhlnpmkaaGreatPlk
/- The reference's Scan. Numbers and types by name. -/
namespace Go.Proofs.YthglbmnhlnpmkaaGreat
open Go.RowKit Go.Lib

theorem one_drop {b : List UInt8} {k : Nat} (h : k + 8 ≤ b.length) (q s : Nat) (hq : numOf ((b.drop k).take 4) = q) (hs : numOf ((b.drop (k + 4)).take 4) = s) :
    one? (b.drop k) = if q ≤ 1048576 ∧ q ≤ b.length - (k + 8) ∧ sumOf 0 ((b.drop (k + 8)).take q) = s then some ((b.drop (k + 8)).take q, b.drop (k + 8 + q)) else none := by
  have h1 := num_drop (l := b) (k := k) (by omega)
  have h2 := num_drop (l := b) (k := k + 4) (by omega)
  rw [hq, Int.toNat_natCast] at h1
  rw [hs, Int.toNat_natCast] at h2
  unfold one?
  rw [h1]
  simp only
  rw [h2]
  simp only [List.length_drop, List.drop_drop]
theorem one_short {b : List UInt8} {k : Nat} (h : ¬ k + 8 ≤ b.length) : one? (b.drop k) = none := by
  unfold one?
  by_cases h4 : k + 4 ≤ b.length
  · rw [num_drop h4]
    simp only
    rw [num_drop_no (by omega)]
  · rw [num_drop_no h4]

/-- What Scan leaves. -/
def ScanDone (b : List UInt8) (w : World) (e : Ending) (w' : World) : Prop :=
  Below w.heap.size w w' ∧ ∃ l n ao c, Scans b l n ∧ n ≤ b.length ∧ e = .returned (.tuple #[.slice ao l.length c, .int .i64 ((n : Nat) : Int)]) ∧ Ows w' w.heap.size (.slice ao l.length c) l.length l

/-- What is known at a round's beginning. -/
def ScanAt (b : List UInt8) (w wr : World) (lv : Value) (k m : Nat) : Prop :=
  ∃ ao j c ps, lv = .slice ao j c ∧ Ows wr w.heap.size (.slice ao j c) j ps ∧ Below w.heap.size w wr ∧ k ≤ m ∧ 8 * j ≤ k ∧ ∀ l n, Scans (b.drop k) l n → Scans b (ps ++ l) (k + n)

theorem scan_stops {b : List UInt8} {w wr : World} {lv : Value} {k m : Nat} (h : ScanAt b w wr lv k m) (hm : m = b.length) (h0 : one? (b.drop k) = none) (w' : World) (hg : Grow wr w') : ScanDone b w (.returned (.tuple #[lv, .int .i64 (k : Int)])) w' := by
  obtain ⟨ao, j, c, ps, rfl, ho, hb, hk, _, hs⟩ := h
  have hj := ho.1
  subst hj
  have := hs [] 0 (.stop h0)
  rw [List.append_nil, Nat.add_zero] at this
  exact ⟨hb.trans (hg.mono hb.size), ps, k, ao, c, this, by omega, rfl, ho.later hg⟩

set_option maxHeartbeats 4000000 in
theorem ref_scan (v : Value) (m : Nat) (b : List UInt8) (w : World) (hr : Reads w v (bv b)) (hm : m = b.length) (hl : Hid (m ≤ 1000000000)) :
    Calls Tryz.prog 55 #[v] w (ScanDone b w) := by
  obtain ⟨ao, c, rfl⟩ : ∃ ao c, v = .slice ao m c := by obtain ⟨ao, c, rfl, _⟩ := hr; exact ⟨ao, c, by rw [bv_length, hm]⟩
  have HR := Lib.hid hr
  have HM := Lib.hid hm
  clear hr hm
  go_enter Tryz.func55, Tryz.ntmps55
  go_wp2_with fail
  go_loopw [4, 5] (fun lv gv wr => ∃ k : Nat, gv = .int .i64 k ∧ Hid (ScanAt b w wr lv k m))
    (fun _ gv _ => m + 8 - (RowKit.intOf gv).toNat)
  case atStart => exact ⟨0, rfl, Lib.hid ⟨none, 0, 0, [], rfl, Ows.nil _ _, Below.refl _ _, Nat.zero_le _, by omega, fun l n h => by simpa using h⟩⟩
  case round =>
    obtain ⟨k, rfl, hrel⟩ := hrel
    have hkm : k ≤ m := by obtain ⟨_, _, _, _, _, _, _, h, _⟩ := hrel.out; exact h
    have hbel : Below w.heap.size w wr := by obtain ⟨_, _, _, _, _, _, h, _⟩ := hrel.out; exact h
    have hrr := HR.out.later hbel
    have hl' := hl.out
    by_cases h4 : k + 4 ≤ m
    · by_cases h8 : k + 8 ≤ m
      · obtain ⟨q, hq⟩ : ∃ q : Nat, numOf ((b.drop k).take 4) = q := ⟨_, (Int.toNat_of_nonneg (numOf_bound _).1).symm⟩
        obtain ⟨s, hs⟩ : ∃ s : Nat, numOf ((b.drop (k + 4)).take 4) = s := ⟨_, (Int.toNat_of_nonneg (numOf_bound _).1).symm⟩
        have hone := one_drop (b := b) (k := k) (by have := HM.out; omega) q s hq hs
        rw [← HM.out] at hone
        have G1 := ref_get_in _ m b k wr hrr HM.out hl h4
        rw [hq] at G1
        have hG2 : ∀ w2, Grow wr w2 → Calls Tryz.prog 80 #[.slice ao m c, .int .i64 ((k : Int) + 4)] w2 fun e w' => e = .returned (.tuple #[.int .i64 s, .bool true]) ∧ ∃ j, w' = w2.drewN j := fun w2 hg => by
          have := ref_get_in _ m b (k + 4) w2 (hrr.later hg) HM.out hl (by omega)
          rw [hs, show (((k + 4 : Nat)) : Int) = (k : Int) + 4 by omega] at this
          exact this
        have HONE := Lib.hid hone
        have HGG := Lib.hid hG2
        clear hq hs hone hG2
        by_cases c1 : 1048576 < q
        · have c1' : (1048576 : Int) < (q : Int) := by omega
          have HS := Lib.hid (scan_stops hrel.out HM.out (by rw [HONE.out, if_neg (by omega)]))
          clear hrel
          go_wp2_with fail
          refine G1.mono ?_
          rintro e w2 ⟨rfl, j2, hw2⟩
          have hg2 : Grow wr w2 := by rw [hw2]; exact ⟨rfl, rfl, rfl, Nat.le_refl _, fun _ _ => rfl⟩
          have G2 := HGG.out w2 hg2
          clear G1 hw2
          go_wp2_with fail
          refine G2.mono ?_
          rintro e w3 ⟨rfl, j3, hw3⟩
          have hg3 : Grow wr w3 := hg2.trans (by rw [hw3]; exact ⟨rfl, rfl, rfl, Nat.le_refl _, fun _ _ => rfl⟩)
          have HG := Lib.hid hg3
          clear G2 hw3 hg2 hg3
          go_wp2_with fail
          go_ret2
          exact HS.out _ HG.out
        · have c1' : ¬ (1048576 : Int) < (q : Int) := by omega
          by_cases c2 : m - (k + 8) < q
          · have c2' : (m : Int) - (k : Int) - 8 < (q : Int) := by omega
            have HS := Lib.hid (scan_stops hrel.out HM.out (by rw [HONE.out, if_neg (by omega)]))
            clear hrel
            go_wp2_with fail
            refine G1.mono ?_
            rintro e w2 ⟨rfl, j2, hw2⟩
            have hg2 : Grow wr w2 := by rw [hw2]; exact ⟨rfl, rfl, rfl, Nat.le_refl _, fun _ _ => rfl⟩
            have G2 := HGG.out w2 hg2
            clear G1 hw2
            go_wp2_with fail
            refine G2.mono ?_
            rintro e w3 ⟨rfl, j3, hw3⟩
            have hg3 : Grow wr w3 := hg2.trans (by rw [hw3]; exact ⟨rfl, rfl, rfl, Nat.le_refl _, fun _ _ => rfl⟩)
            have HG := Lib.hid hg3
            clear G2 hw3 hg2 hg3
            go_wp2_with fail
            go_ret2
            exact HS.out _ HG.out
          · have c2' : ¬ (m : Int) - (k : Int) - 8 < (q : Int) := by omega
            obtain ⟨a, rfl⟩ : ∃ a, ao = some a := by
              obtain ⟨ao', c', e, _, hn0, _⟩ := HR.out
              cases ao with
              | some a => exact ⟨a, rfl⟩
              | none =>
                simp only [Value.slice.injEq] at e
                have := (hn0 e.1.symm).1
                have : b = [] := by simpa [bv] using this
                have hm := HM.out
                subst this; simp at hm; omega
            have hmc : m ≤ c := by
              obtain ⟨_, _, e, h0, _⟩ := HR.out
              simp only [Value.slice.injEq, bv_length] at e h0
              have := HM.out
              omega
            obtain ⟨k8, hk8⟩ : ∃ k8, k8 = k + 8 := ⟨_, rfl⟩
            obtain ⟨bz, hbz, jz⟩ : ∃ bz, (if c = k8 then some a else some (a.add k8)) = some bz ∧ (bz = a.add k8 ∨ b.length = k8) := by
              by_cases h : c = k8
              · exact ⟨a, if_pos h, .inr (by have := HM.out; omega)⟩
              · exact ⟨a.add k8, if_neg h, .inl rfl⟩
            have HRD : Hid (∀ w2, Grow wr w2 → Reads w2 (.slice (some bz) q (c - k8)) (bv ((b.drop k8).take q))) := Lib.hid fun w2 hg => ((hrr.later hg).drop k8 (by omega) bz jz).prefix q (by omega)
            have e8 : (k : Int) + 8 = (k8 : Int) := by omega
            have x1 : (k8 : Int) + (q : Int) ≤ (c : Int) := by omega
            have x2 : k8 ≤ k8 + q := by omega
            have x3 : k8 + q ≤ c := by omega
            have HX := Lib.hid (And.intro hk8 (And.intro h8 (And.intro c2 hmc)))
            rw [← hk8] at HONE
            have u9 : wrap64 ((k8 : Int) + (q : Int)) = ((k8 + q : Nat) : Int) := by rw [wrap64_id _ (by omega)]; omega
            have HU9 := Lib.hid u9
            clear u9 hk8 jz
            by_cases hsum : sumOf 0 ((b.drop k8).take q) = (s : Int)
            · have hsum2 : (sumOf 0 ((b.drop k8).take q) != (s : Int)) = false := by simpa using hsum
              obtain ⟨aL, j, cL, ps, rfl, ho, _, _, hjk, hscan⟩ := hrel.out
              have HO := Lib.hid (And.intro ho (And.intro hjk hscan))
              have HONE2 : Hid (one? (b.drop k) = some ((b.drop k8).take q, b.drop (k8 + q))) := Lib.hid (by rw [HONE.out, if_pos ⟨by omega, by omega, hsum⟩])
              have FL : Hid (j + 1 ≤ 1000000000) := Lib.hid (by omega)
              have F1 : Hid (q ≤ maxLen) := Lib.hid (by unfold maxLen; omega)
              have F2 : Hid (q * 1 ≤ 140737488355328) := Lib.hid (by omega)
              have HBEL := Lib.hid hbel
              have hlen : Hid (q = ((b.drop k8).take q).length) := Lib.hid (by have := HX.out; have := HM.out; rw [List.length_take, List.length_drop]; omega)
              clear hrel ho hjk hscan
              go_wp2_with fail
              refine G1.mono ?_
              rintro e w2 ⟨rfl, j2, hw2⟩
              have hg2 : Grow wr w2 := by rw [hw2]; exact ⟨rfl, rfl, rfl, Nat.le_refl _, fun _ _ => rfl⟩
              have G2 := HGG.out w2 hg2
              clear G1 hw2
              go_wp2_with fail
              refine G2.mono ?_
              rintro e w3 ⟨rfl, j3, hw3⟩
              have hg3 : Grow wr w3 := hg2.trans (by rw [hw3]; exact ⟨rfl, rfl, rfl, Nat.le_refl _, fun _ _ => rfl⟩)
              have C5 := ref_sum _ q _ w3 (HRD.out w3 hg3) hlen.out (Lib.hid (by omega))
              have HG := Lib.hid hg3
              clear G2 hw3 hg2 hg3
              go_wp2_with fail
              refine C5.mono ?_
              rintro e w4 ⟨rfl, hw4⟩
              subst hw4
              clear C5
              have RD := HRD.out w4 HG.out
              have O4 := HO.out.1.later HG.out
              have B4 : Below w.heap.size w w4 := HBEL.out.trans (HG.out.mono HBEL.out.size)
              have HP := Lib.hid (And.intro RD (And.intro O4 B4))
              clear RD O4 B4
              have hapF : Hid (∀ (w5 : World) (ao5 : Option Addr) (q5 c5 : Nat) (l5 : List UInt8) (o : Obj), Bs w5 w4.heap.size (.slice ao5 q5 c5) q5 l5 → ∀ a, ao5 = some a → some a.block ≠ (Value.slice aL j cL).ownBlock ∧ a.block < (w5.alloc o).heap.size) := Lib.hid fun w5 ao5 q5 c5 l5 o h a ha => by
                subst ha
                have h1 := h.2.lt a.block rfl
                refine ⟨fun e => ?_, by simp; omega⟩
                obtain ⟨_, vs, h2, _⟩ := HP.out.2.1
                have := (h2.lt a.block e.symm).2
                omega
              go_wp2_with (first | (at_builtin; (refine wpList_append_bytes rfl (.tmp 58) (.tmp 66) rfl w4.heap.size _ 0 [] rfl (Bs.empty w4 w4.heap.size (Nat.le_refl _)) (.slice (some bz) q (c - k8)) q _ hlen.out (by first | rfl | simp [Act.eval]) (HP.out.1.alloc _) q (Nat.zero_add q).symm F1 F2 (by simp) ?_); intro ao5 c5 w5 hown5 hb5) | (at_builtin; refine wpList_append_row rfl (.tmp 57) (.tmp 68) rfl w.heap.size (.slice aL j cL) j ps rfl ((HP.out.2.1.later (((Below.refl _ w4).alloc (Nat.le_refl _) _).trans hb5)).later ((Below.refl _ w5).alloc (Nat.le_refl _) _)) ⟨w5.heap.size, 0, none⟩ _ q ao5 c5 hown5.1 rfl (by rw [World.cell?_alloc_mark]; rfl) (hown5.alloc _).reads (hapF.out w5 ao5 q c5 _ _ hown5) F1 (j + 1) rfl FL (Nat.le_trans (Nat.le_trans HP.out.2.2.size (((Below.refl _ w4).alloc (Nat.le_refl _) _).trans hb5 |>.size)) (by simp)) ?_; intro ao6 c6 w6 hown6 hb6))
              have hx := HX.out
              have hb3 : Below w.heap.size w w6 := (HP.out.2.2.trans ((((Below.refl _ w4).alloc (Nat.le_refl _) _).trans hb5).mono HP.out.2.2.size)).trans (((Below.refl _ w5).alloc (Nat.le_trans HP.out.2.2.size (((Below.refl _ w4).alloc (Nat.le_refl _) _).trans hb5 |>.size)) _).trans hb6)
              have hjk := HO.out.2.1
              refine ⟨⟨k8 + q, by simp, Lib.hid ⟨ao6, j + 1, c6, _, rfl, hown6, hb3, by omega, by omega, fun l n h => ?_⟩⟩, by simp only [RowKit.intOf]; omega⟩
              have h2 := HO.out.2.2 _ _ (.more HONE2.out h)
              rw [← hlen.out, show k + (8 + q + n) = k8 + q + n by omega] at h2
              simpa using h2
            · have hsum2 : (sumOf 0 ((b.drop k8).take q) != (s : Int)) = true := by simpa using hsum
              have HS := Lib.hid (scan_stops hrel.out HM.out (by rw [HONE.out, if_neg (fun h => hsum h.2.2)]))
              clear hrel
              go_wp2_with fail
              refine G1.mono ?_
              rintro e w2 ⟨rfl, j2, hw2⟩
              have hg2 : Grow wr w2 := by rw [hw2]; exact ⟨rfl, rfl, rfl, Nat.le_refl _, fun _ _ => rfl⟩
              have G2 := HGG.out w2 hg2
              clear G1 hw2
              go_wp2_with fail
              refine G2.mono ?_
              rintro e w3 ⟨rfl, j3, hw3⟩
              have hg3 : Grow wr w3 := hg2.trans (by rw [hw3]; exact ⟨rfl, rfl, rfl, Nat.le_refl _, fun _ _ => rfl⟩)
              have C5 := ref_sum _ q _ w3 (HRD.out w3 hg3) (by have := HX.out; have := HM.out; rw [List.length_take, List.length_drop]; omega) (Lib.hid (by omega))
              have HG := Lib.hid hg3
              clear G2 hw3 hg2 hg3
              go_wp2_with fail
              refine C5.mono ?_
              rintro e w4 ⟨rfl, hw4⟩
              subst hw4
              clear C5
              go_wp2_with fail
              go_ret2
              exact HS.out _ HG.out
      · have h0 := one_short (b := b) (k := k) (by have := HM.out; omega)
        have G1 := ref_get_in _ m b k wr hrr HM.out hl h4
        have HS := Lib.hid (scan_stops hrel.out HM.out h0)
        clear h0 hrel
        go_wp2_with fail
        refine G1.mono ?_
        rintro e w2 ⟨rfl, j2, hw2⟩
        have hg2 : Grow wr w2 := by rw [hw2]; exact ⟨rfl, rfl, rfl, Nat.le_refl _, fun _ _ => rfl⟩
        have G2 := ref_get_out _ m b ((k : Int) + 4) w2 (hrr.later hg2) HM.out hl (by omega)
        have HG := Lib.hid hg2
        clear hw2 hg2 G1
        go_wp2_with fail
        refine G2.mono ?_
        rintro e w3 ⟨rfl, hw3⟩
        subst hw3
        clear G2
        go_wp2_with fail
        go_ret2
        exact HS.out _ HG.out
    · have h0 := one_short (b := b) (k := k) (by have := HM.out; omega)
      have G1 := ref_get_out _ m b (k : Int) wr hrr HM.out hl (by omega)
      have HS := Lib.hid (scan_stops hrel.out HM.out h0)
      have hg2 : ∃ x : Int × Bool, ∃ j2, True := ⟨(0, true), 0, trivial⟩
      clear h0 hrel hg2
      have C2 : ∃ x ok, Calls Tryz.prog 80 #[.slice ao m c, .int .i64 ((k : Int) + 4)] wr fun e w' => e = .returned (.tuple #[.int .i64 x, .bool ok]) ∧ ∃ j, w' = wr.drewN j := ⟨0, false, (ref_get_out _ m b ((k : Int) + 4) wr hrr HM.out hl (by omega)).mono fun e w' h => ⟨h.1, 0, h.2⟩⟩
      obtain ⟨x, ok, C2⟩ := C2
      go_wp2_with fail
      refine G1.mono ?_
      rintro e w2 ⟨rfl, hw2⟩
      subst hw2
      clear G1
      go_wp2_with fail
      refine C2.mono ?_
      rintro e w3 ⟨rfl, j3, hw3⟩
      clear C2
      go_wp2_with fail
      go_ret2
      subst hw3
      exact HS.out _ ⟨rfl, rfl, rfl, Nat.le_refl _, fun _ _ => rfl⟩

end Go.Proofs.YthglbmnhlnpmkaaGreat

namespace Go.Proofs.YthglbmnhlnpmkaaGreat
open Go.RowKit Go.Lib Go.Sort

/-- Texts, two by two. -/
def pairUp : List ByteArray → List Prm
  | k :: v :: r => ⟨k, v⟩ :: pairUp r
  | _ => []
theorem pairUp_flat (L : List Prm) : pairUp (flatP L) = L := by
  induction L with
  | nil => rfl
  | cons o L ih =>
    have e : flatP (o :: L) = o.key :: o.val :: flatP L := by simp [flatP]
    rw [e, pairUp, ih]
theorem pairUp_length : ∀ (n : Nat) (t : List ByteArray), t.length = 2 * n → (pairUp t).length = n
  | 0, [], _ => rfl
  | 0, _ :: _, h => by simp at h
  | n + 1, [], h => by simp at h
  | n + 1, [_], h => by simp at h; omega
  | n + 1, k :: v :: r, h => by
    have := pairUp_length n r (by simp at h; omega)
    simp [pairUp, this]
theorem pairUp_at : ∀ (i : Nat) (t : List ByteArray) (k v : ByteArray), t[2 * i]? = some k → t[2 * i + 1]? = some v → (pairUp t)[i]? = some ⟨k, v⟩
  | 0, [], _, _, h, _ => by cases h
  | 0, [a], _, _, _, h => by cases h
  | 0, a :: b :: r, k, v, h1, h2 => by
    simp at h1 h2
    subst h1 h2
    rfl
  | i + 1, [], _, _, h, _ => by cases h
  | i + 1, [a], _, _, h, _ => by simp [show 2 * (i + 1) = 2 * i + 1 + 1 by omega] at h
  | i + 1, a :: b :: r, k, v, h1, h2 => by
    rw [show 2 * (i + 1) = 2 * i + 1 + 1 by omega] at h1 h2
    simp only [List.getElem?_cons_succ] at h1 h2
    rw [pairUp, List.getElem?_cons_succ]
    exact pairUp_at i r k v h1 h2
theorem pairUp_mem {t : List ByteArray} {o : Prm} (h : o ∈ pairUp t) : o.key ∈ t ∧ o.val ∈ t := by
  induction t using pairUp.induct with
  | case1 k v r ih =>
    rw [pairUp] at h
    rcases List.mem_cons.1 h with rfl | h
    · simp
    · have := ih h
      exact ⟨by simp [this.1], by simp [this.2]⟩
  | case2 t hne =>
    have : pairUp t = [] := by unfold pairUp; split <;> simp_all
    rw [this] at h
    cases h

/-- The pairs whose bytes b is. -/
def unP (b : List UInt8) : Option (List Prm) :=
  match one? b with
  | some (p, []) => match dec p with
    | some t => if t.length % 2 = 0 ∧ Rise (pairUp t) then some (pairUp t) else none
    | none => none
  | _ => none

theorem one_size {b p r : List UInt8} (h : one? b = some (p, r)) : b.length = 8 + p.length + r.length := by
  by_cases h8 : 8 ≤ b.length
  · obtain ⟨q, hq⟩ : ∃ q : Nat, numOf ((b.drop 0).take 4) = q := ⟨_, (Int.toNat_of_nonneg (numOf_bound _).1).symm⟩
    obtain ⟨s, hs⟩ : ∃ s : Nat, numOf ((b.drop (0 + 4)).take 4) = s := ⟨_, (Int.toNat_of_nonneg (numOf_bound _).1).symm⟩
    have h1 := one_drop (b := b) (k := 0) (by omega) q s hq hs
    rw [List.drop_zero] at h1
    rw [h1] at h
    split at h
    · rename_i hc
      simp only [Option.some.injEq, Prod.mk.injEq] at h
      obtain ⟨rfl, rfl⟩ := h
      simp only [List.length_take, List.length_drop]
      omega
    · cases h
  · have h1 := one_short (b := b) (k := 0) (by omega)
    rw [List.drop_zero] at h1
    rw [h1] at h
    cases h

theorem scan_one {b p : List UInt8} {n : Nat} (h : Scans b [p] n) (hn : n = b.length) : one? b = some (p, []) := by
  cases h with
  | more h1 h2 =>
    cases h2 with
    | stop h3 =>
      rename_i r
      have h4 := one_size h1
      have : r = [] := List.eq_nil_of_length_eq_zero (by omega)
      rw [h1, this]
theorem scan_not {b : List UInt8} {l : List (List UInt8)} {n : Nat} (h : Scans b l n) (hn : ¬ (l.length = 1 ∧ n = b.length)) : unP b = none := by
  unfold unP
  split
  · rename_i p h1
    exfalso
    have h2 : Scans b [p] (8 + p.length + 0) := .more h1 (.stop rfl)
    obtain ⟨rfl, e⟩ := scans_det h h2
    have := one_size h1
    exact hn ⟨rfl, by simp at this; omega⟩
  · rfl
theorem unP_of {b p : List UInt8} (h : one? b = some (p, [])) : unP b = match dec p with
    | some t => if t.length % 2 = 0 ∧ Rise (pairUp t) then some (pairUp t) else none
    | none => none := by
  unfold unP
  rw [h]

theorem unP_frm {L : List Prm} (hR : Rise L) (hb : bulkP L ≤ 20000) : unP (frm (enc (flatP L))) = some L := by
  have h1 : bulk (flatP L) ≤ 100000 := by have := flatP_bulk L; omega
  have h2 : (enc (flatP L)).length ≤ 1048576 := by
    have := enc_length (flatP L)
    have h3 := flatP_length L
    have h4 : L.length ≤ bulkP L := by
      clear hR hb h1 this h3
      induction L with
      | nil => simp
      | cons o L ih => rw [bulkP_cons, List.length_cons]; omega
    omega
  have h3 := one_frm (enc (flatP L)) [] h2
  rw [List.append_nil] at h3
  rw [unP_of h3, dec_enc _ h1]
  simp only
  rw [pairUp_flat, if_pos ⟨by rw [flatP_length]; omega, hR⟩]

theorem num_size {b r : List UInt8} {n : Nat} (h : num? b = some (n, r)) : r.length + 4 = b.length := by
  unfold num? at h
  split at h
  · simp only [Option.some.injEq, Prod.mk.injEq] at h
    obtain ⟨_, rfl⟩ := h
    simp only [List.length_drop]; omega
  · cases h
theorem texts_size : ∀ (k : Nat) (b : List UInt8) (L : List ByteArray) (q : List UInt8), texts? k b = some (L, q) → 4 * L.length + q.length ≤ b.length
  | 0, b, L, q, h => by
    simp only [texts?, Option.some.injEq, Prod.mk.injEq] at h
    obtain ⟨rfl, rfl⟩ := h
    simp
  | k + 1, b, L, q, h => by
    rw [texts?] at h
    cases ht : text? b with
    | none => rw [ht] at h; cases h
    | some x =>
      obtain ⟨t, r⟩ := x
      rw [ht] at h
      simp only at h
      have hr : r.length + 4 ≤ b.length := by
        unfold text? at ht
        cases hn : num? b with
        | none => rw [hn] at ht; cases ht
        | some y =>
          obtain ⟨n, r'⟩ := y
          have h1 := num_size hn
          rw [hn] at ht
          simp only at ht
          split at ht
          · simp only [Option.some.injEq, Prod.mk.injEq] at ht
            obtain ⟨_, rfl⟩ := ht
            simp only [List.length_drop]; omega
          · cases ht
      cases hk : texts? k r with
      | none => rw [hk] at h; cases h
      | some z =>
        obtain ⟨L', q'⟩ := z
        rw [hk] at h
        simp only [Option.some.injEq, Prod.mk.injEq] at h
        obtain ⟨rfl, rfl⟩ := h
        have := texts_size k r L' q' hk
        simp only [List.length_cons]; omega
theorem dec_length_le {b : List UInt8} {L : List ByteArray} (h : dec b = some L) : L.length ≤ b.length := by
  unfold dec list? at h
  cases hn : num? b with
  | none => rw [hn] at h; cases h
  | some y =>
    obtain ⟨n, r⟩ := y
    have h1 := num_size hn
    rw [hn] at h
    simp only at h
    cases hk : texts? n r with
    | none => rw [hk] at h; cases h
    | some z =>
      obtain ⟨L', q'⟩ := z
      rw [hk] at h
      have h2 := texts_size n r L' q' hk
      cases q' with
      | nil =>
        simp only [Option.some.injEq] at h
        subst h
        omega
      | cons x q => cases h

theorem bulkPQ (L : List Prm) : bulkP L = bulkQ L := rfl
theorem bulkP_base (L : List Prm) : bulkP (baseP L) ≤ bulkP L := by rw [bulkPQ, bulkPQ]; exact bulkQ_base L
theorem bulkP_length (L : List Prm) : L.length ≤ bulkP L := by
  induction L with
  | nil => simp
  | cons o L ih => rw [bulkP_cons, List.length_cons]; omega

end Go.Proofs.YthglbmnhlnpmkaaGreat
