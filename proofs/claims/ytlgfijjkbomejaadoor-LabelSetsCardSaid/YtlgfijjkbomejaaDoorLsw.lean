/- LabelSets, walked. Numbers and types by name. -/
import Derived.Test.YtlgfijjkbomejaaDoorLse
import Derived.Test.YtlgfijjkbomejaaDoorLpr
import Derived.Test.YtlgfijjkbomejaaDoorLor
import Derived.Test.YtlgfijjkbomejaaDoorLrd
import Derived.Test.YtlgfijjkbomejaaDoorDig
import Derived.Test.YtlgfijjkbomejaaDoorMvu
import Derived.BigQuiet
namespace Go.Proofs.YtlgfijjkbomejaaDoor
open Go.RowKit Go.Lib
set_option maxRecDepth 100000

theorem wrap_pow : ∀ k, k < 4 → wrap64 ((2 : Int) ^ k) = ((2 ^ k : Nat) : Int) := by decide +kernel
theorem bit_and : ∀ a : Nat, a < 8 → ∀ j : Nat, j < 3 → bits BinOp.and IntKind.i64 ((a : Int) / (2 : Int) ^ j) 1 = if a >>> j % 2 = 0 then 0 else 1 := by decide +kernel
theorem bit_or : ∀ a : Nat, a < 8 → ∀ j : Nat, j < 3 → bits BinOp.or IntKind.i64 (a : Int) (wrap64 ((2 : Int) ^ j)) = ((a ||| 1 <<< j : Nat) : Int) ∧ a ||| 1 <<< j < 8 := by decide +kernel
theorem bits_two : ∀ a : Nat, a < 8 → ∀ b : Nat, b < 8 → bits BinOp.or IntKind.i64 (a : Int) (b : Int) = ((a ||| b : Nat) : Int) ∧ bits BinOp.and IntKind.i64 (a : Int) (b : Int) = ((a &&& b : Nat) : Int) := by decide +kernel
theorem set_text {a : Nat} (h : a < 10) : (⟨#[115]⟩ : ByteArray) ++ txt (digs a) = tx (setN a) ∧ (txt (digs a)).size ≤ 2 := by
  rw [digs_small h]
  refine ⟨?_, Nat.le_succ _⟩
  apply ByteArray.ext
  simp [txt, tx, setN]
theorem LatV.fourS {lo : Nat} {w : World} {L : List (List UInt8)} {f : Nat → Nat → Bool} {aN aL aJ aM : Option Addr} {n n1 n2 n3 cN cL cJ cM : Nat} {x y : Value} (h : LatV lo w L f (.agg #[.slice aN n cN, .slice aL n1 cL, .slice aJ n2 cJ, .slice aM n3 cM, x, y])) :
    StrV w (.slice aN n cN) n L ∧ TabV w (.slice aL n cL) n n (bB f) ∧ TabV w (.slice aJ n cJ) n n (bI (joinI n f)) ∧ TabV w (.slice aM n cM) n n (bI (joinI n (flipB f))) := by
  obtain ⟨bN, dN, bL, dL, bJ, dJ, bM, dM, m, hm, e, h1, h2, h3, h4⟩ := h
  simp only [Value.agg.injEq, Array.mk.injEq, List.cons.injEq, Value.slice.injEq, and_true] at e
  obtain ⟨⟨rfl, rfl, rfl⟩, ⟨rfl, rfl, rfl⟩, ⟨rfl, _, rfl⟩, ⟨rfl, _, rfl⟩, _, _⟩ := e
  exact ⟨h1.1, h2.toV, h3.toV, h4.toV⟩
theorem set_lit (W : World) (p q : List UInt8) : Cells (W.alloc (.cells #[.string (tx p), .string (tx q), .int .i64 0] 26)) (.slice (some ⟨W.heap.size, 0, none⟩) 1 1) 3 1 (pcs (p, q)) :=
  Cells.lit W (pcs (p, q)) 26 (0, 0) 3 1 rfl

set_option maxRecDepth 10000000 in
set_option maxHeartbeats 8000000 in
theorem sets_walk (K : LabK) (z x y : Nat) (hz : z < 256) (hx : x < 256) (hy : y < 256) (w : World) (ht : SgW w) : Calls Tryd.prog 3 #[.int .u8 (z : Int), .int .u8 (x : Int), .int .u8 (y : Int)] w fun e w' => e = .returned (.bool true) ∧ Below w.heap.size w w' := by
  obtain ⟨k, hk⟩ : ∃ k, 1 + z % 3 = k := ⟨_, rfl⟩
  have hkI : (1 : Int) + (z : Int) % 3 = (k : Int) := by omega
  have hk2 : 1 ≤ k ∧ k < 4 := by omega
  have H := Lib.hid ht
  have HK := Lib.hid K
  clear hk ht K
  go_enter Tryd.func3, Tryd.ntmps3
  obtain ⟨sz, hsz⟩ : ∃ sz, 2 ^ k = sz := ⟨_, rfl⟩
  have hsz2 : sz ≤ 8 := by
    obtain rfl | rfl | rfl : k = 1 ∨ k = 2 ∨ k = 3 := by omega
    all_goals (rw [← hsz]; decide)
  have hp : wrap64 (2 ^ k) = (sz : Int) := by rw [← hsz]; exact wrap_pow k (by omega)
  have HSZ := Lib.hid hsz
  clear hsz
  go_wp2_with fail
  clear hkI
  rw [hp]
  clear hp
  go_loopw [9, 10] (fun r i wr => ∃ a m : Nat, a ≤ sz ∧ i = .int .i64 a ∧ Hid (OwnPr wr w.heap.size r m (setP k a) ∧ Grow w wr)) (fun _ i _ => sz - (RowKit.intOf i).toNat)
  case atStart => exact ⟨0, 0, Nat.zero_le _, rfl, Lib.hid ⟨OwnPr.nil _ _, Grow.refl w⟩⟩
  case round =>
    obtain ⟨a, m, h1, rfl, hs⟩ := hrel
    by_cases h5 : a < sz
    · have h6 : (a : Int) < (sz : Int) := by omega
      go_wp2_with fail
      go_loopw [9, 11] (fun r i wr => ∃ j m : Nat, j ≤ k ∧ i = .int .i64 j ∧ Hid (OwnPr wr w.heap.size r m (setP k a ++ setR a j) ∧ Grow w wr)) (fun _ i _ => k - (RowKit.intOf i).toNat)
      case atStart => exact ⟨0, m, Nat.zero_le _, rfl, Lib.hid (by rw [show setR a 0 = [] from rfl, List.append_nil]; exact hs.out)⟩
      case round =>
        obtain ⟨j, q, h7, rfl, hi⟩ := hrel
        by_cases h8 : j < k
        · have h9 : (j : Int) < (k : Int) := by omega
          have hba := bit_and a (by omega) j (by omega)
          by_cases hb : a >>> j % 2 = 0
          · rw [if_pos hb] at hba
            obtain ⟨hor, ho8⟩ := bit_or a (by omega) j (by omega)
            have hsR : setR a (j + 1) = setR a j ++ [(setN a, setN (a ||| 1 <<< j))] := by rw [setR, if_pos hb]
            obtain ⟨c, hc⟩ : ∃ c, a ||| 1 <<< j = c := ⟨_, rfl⟩
            rw [hc] at hor ho8 hsR
            have D1 := Lib.hid (fun W => digits_ref a W (by omega))
            have D2 := Lib.hid (fun W => digits_ref c W (by omega))
            obtain ⟨es1, z1⟩ := set_text (show a < 10 by omega)
            obtain ⟨es2, z2⟩ := set_text (show c < 10 by omega)
            obtain ⟨n1, hn1⟩ : ∃ s, setN a = s := ⟨_, rfl⟩
            obtain ⟨n2, hn2⟩ : ∃ s, setN c = s := ⟨_, rfl⟩
            rw [hn1] at es1 hsR
            rw [hn2] at es2 hsR
            obtain ⟨bo, d, rfl⟩ := hi.out.1.shape
            obtain ⟨hmM, cs, hcs, hpa⟩ := hi.out.1
            have hq := setP_len k a
            have hq2 := setR_len a j
            have hqb : q ≤ 100 := by
              rw [List.length_append] at hmM
              have : k * a ≤ 3 * 8 := Nat.mul_le_mul (by omega) (by omega)
              omega
            have HO : Hid (∀ W, Grow wr W → W.ownsRow w.heap.size 26 3 (.slice bo q d) q cs) := Lib.hid fun W hg => own_chg (F := []) hcs (Chg.of_below hg) (by simp)
            have HGR := Lib.hid hi.out.2
            have HB : Hid (∀ W, Grow wr W → w.heap.size ≤ W.heap.size) := Lib.hid fun W hg => by have := HGR.out.size; have := hg.size; omega
            have FK : Hid (q + 1 ≤ 1000000) := Lib.hid (by omega)
            have HT := Lib.hid (And.intro hmM (And.intro hpa hsR))
            have HL := Lib.hid (fun W => set_lit W n1 n2)
            clear hi hcs hmM hpa hsR hq hq2 hqb hc hn1 hn2 hb
            go_wp2_with (first | (have _ := G1.out; go_at_call 4; refine (D2.out _).mono ?_; rintro e w5 ⟨rfl, hg5⟩; have G2 := Lib.hid (Grow.trans G1.out hg5); clear hg5) | (go_at_call 4; refine (D1.out _).mono ?_; rintro e w4 ⟨rfl, hg4⟩; have G1 : Hid (Grow wr w4) := Lib.hid hg4; clear hg4) | (at_builtin; refine wpList_append_gen elemPrm8 rfl (.tmp 41) (.tmp 53) rfl w.heap.size _ q cs rfl (HO.out _ (growA _ G2.out)) _ 1 (pcs (n1, n2)) rfl (HL.out _) (pcs_one _) (q + 1) rfl FK (by decide) (HB.out _ (growA _ G2.out)) ?_; intro ao6 c6 w6 hown6 hb6 hg6 ho6; have HN : Hid (OwnPr w6 w.heap.size (.slice ao6 (q + 1) c6) (q + 1) (setP k a ++ setR a (j + 1)) ∧ Grow w w6) := Lib.hid ⟨⟨by rw [HT.out.2.2, ← List.append_assoc, List.length_append, ← HT.out.1]; rfl, _, hown6, by rw [HT.out.2.2, ← List.append_assoc]; exact Parts.snoc rfl (pcs_prm _) HT.out.2.1⟩, Below.trans (Grow.trans HGR.out (growA _ G2.out)) hb6⟩; clear hown6 hb6 hg6 ho6))
            exact ⟨⟨j + 1, q + 1, by omega, by go_num, HN⟩, by simp [RowKit.intOf]; omega⟩
          · rw [if_neg hb] at hba
            have hsR : setR a (j + 1) = setR a j := by rw [setR, if_neg hb, List.append_nil]
            have HN : Hid (OwnPr wr w.heap.size _ q (setP k a ++ setR a (j + 1)) ∧ Grow w wr) := Lib.hid (by rw [hsR]; exact hi.out)
            clear hi hsR hb
            go_wp2_with fail
            exact ⟨⟨j + 1, q, by omega, rfl, HN⟩, by simp [RowKit.intOf]; omega⟩
        · have h9 : ¬ (j : Int) < (k : Int) := by omega
          obtain rfl : j = k := by omega
          go_wp2_with fail
          exact ⟨⟨a + 1, q, by omega, by go_num, hi⟩, by simp [RowKit.intOf]; omega⟩
    · have h6 : ¬ (a : Int) < (sz : Int) := by omega
      obtain rfl : a = sz := by omega
      obtain ⟨al, cl, rfl⟩ := hs.out.1.shape
      have hmq : m ≤ 100 := by
        have h7 := setP_len k a
        have h8 := hs.out.1.1
        have : k * a ≤ 3 * 8 := Nat.mul_le_mul (by omega) (by omega)
        omega
      have P1 := code_make (.slice al m cl) m (setP k a) wr (hs.out.1.read (by omega))
      have HG0 := Lib.hid hs.out.2
      clear hs hmq
      go_wp2_with fail
      refine P1.mono ?_
      rintro e w3 ⟨hg3, v3, x3, rfl, hm3⟩
      rw [← HSZ.out] at hm3
      obtain ⟨rfl, hV⟩ := set_made hm3 hk2.1 hk2.2
      rw [HSZ.out] at hV
      have hV0 := hV
      obtain ⟨aN, cN, aL, cL, aJ, cJ, aM, cM, n', hn', rfl, _⟩ := hV0
      obtain rfl : n' = a := by rw [hn', List.length_map, List.length_range]
      clear hn'
      obtain ⟨y1, hy1⟩ : ∃ y, (lowI n' subB : Int) = y := ⟨_, rfl⟩
      obtain ⟨y2, hy2⟩ : ∃ y, (lowI n' (flipB subB) : Int) = y := ⟨_, rfl⟩
      rw [hy1, hy2] at hV ⊢
      obtain ⟨W, hW⟩ : ∃ W, w3.alloc (.cells #[.slice aN n' cN, .slice aL n' cL, .slice aJ n' cJ, .slice aM n' cM, .int .i64 y1, .int .i64 y2] 31) = W := ⟨_, rfl⟩
      have hgW : Grow w3 W := by rw [← hW]; exact (Below.refl _ _).alloc (Nat.le_refl _) _
      have HB1 := Lib.hid (show LatB W w3.heap.size (.slice aN n' cN) (.slice aL n' cL) (.slice aJ n' cJ) (.slice aM n' cM) (.int .i64 y1) (.int .i64 y2) from by rw [← hW]; exact LatB.new _ _ _ _ _ _ _)
      have HV1 := Lib.hid (hV.later hgW)
      have HG1 := Lib.hid (Grow.trans HG0.out (Grow.trans hg3 hgW))
      have HW := Lib.hid hW
      obtain ⟨p, hpx⟩ : ∃ p, x % n' = p := ⟨_, rfl⟩
      obtain ⟨q, hqy⟩ : ∃ q, y % n' = q := ⟨_, rfl⟩
      have hn0' : 0 < n' := by have := Nat.two_pow_pos k; have := HSZ.out; omega
      have hpn : p < n' := by rw [← hpx]; exact Nat.mod_lt _ hn0'
      have hqn : q < n' := by rw [← hqy]; exact Nat.mod_lt _ hn0'
      have hxa : (x : Int).tmod (n' : Int) = (p : Int) := by rw [IntWalk.rem_in _ _ (by omega), ← hpx]; exact (Int.natCast_emod x n').symm
      have hyb : (y : Int).tmod (n' : Int) = (q : Int) := by rw [IntWalk.rem_in _ _ (by omega), ← hqy]; exact (Int.natCast_emod y n').symm
      have hn0 : ¬ (n' : Int) = 0 := by omega
      clear hm3 hg3 hgW hV P1 hy1 hy2 hpx hqy hW
      go_upto_region 13 with fail
      rw [HW.out]
      obtain ⟨⟨f0, f1, f2⟩, f3, f4, f5⟩ := HB1.out.cells
      go_wp2_with (go_at_call 6; refine (lnum_at _ _).mono ?_; rintro e w' ⟨rfl, rfl⟩)
      go_quiet (fail)
      obtain ⟨V, hV1⟩ : ∃ V, W.drewN nq = V := ⟨_, rfl⟩
      have hgd : Grow W V := by rw [← hV1]; exact below_drewN (Grow.refl W) nq
      rw [hV1]
      have HG2 := Lib.hid (Grow.trans HG1.out hgd)
      have HL1 := Lib.hid (HV1.out.later hgd)
      have HC1 := Lib.hid (HB1.out.later hgd)
      clear hV1 hgd HB1 HV1 hxa hyb f0 f1 f2 f3 f4 f5
      go_upto_region 16 with fail
      refine wp_region_mvu [(0, 78, true)] (by kernel_rfl) (by kernel_rfl) ?_
      simp only [mvAll, mvSeg, List.drop_zero, List.cons_append, List.nil_append, Nat.reduceAdd]
      obtain ⟨tN, t1, t2, t3⟩ := HL1.out.fourS
      have hor := (bits_two p (by omega) q (by omega)).1
      have han := (bits_two p (by omega) q (by omega)).2
      obtain ⟨hj1, hj2⟩ := set_join k hk2.2 hk2.1 p (by rw [HSZ.out]; exact hpn) q (by rw [HSZ.out]; exact hqn)
      rw [HSZ.out] at hj1 hj2
      have hcn : p ||| q < n' := by rw [← HSZ.out]; exact Nat.or_lt_two_pow (by rw [HSZ.out]; exact hpn) (by rw [HSZ.out]; exact hqn)
      have hdn : p &&& q < n' := Nat.lt_of_le_of_lt Nat.and_le_left hpn
      obtain ⟨aj, bj, dj, rfl, j1, j2⟩ := t2.at hpn hqn
      obtain ⟨am, bm, dm, rfl, m1, m2⟩ := t3.at hpn hqn
      obtain ⟨ae, be, de, rfl, e1, e2⟩ := t1.at hpn hqn
      unfold bI at j2 m2
      unfold bB subB at e2
      rw [hj1] at j2
      rw [hj2] at m2
      obtain ⟨c, hc⟩ : ∃ c, p ||| q = c := ⟨_, rfl⟩
      obtain ⟨d, hd⟩ : ∃ d, p &&& q = d := ⟨_, rfl⟩
      rw [hc] at hor hcn j2
      rw [hd] at han hdn m2 e2
      have ebq : (d == p) = ((d : Int) == (p : Int)) := by
        rw [Bool.eq_iff_iff, beq_iff_eq, beq_iff_eq]
        omega
      rw [ebq] at e2
      obtain ⟨bq, hbq⟩ : ∃ b, ((d : Int) == (p : Int)) = b := ⟨_, rfl⟩
      rw [hbq] at e2
      obtain ⟨an, sc, rfl, hc1, hc2⟩ := tN.at hcn
      obtain ⟨an', sd, e9, hd1, hd2⟩ := tN.at hdn
      obtain rfl : an = an' := by simpa using e9
      rw [List.getElem?_map, List.getElem?_range hcn] at hc1
      rw [List.getElem?_map, List.getElem?_range hdn] at hd1
      obtain rfl : setN c = sc := by simpa using hc1
      obtain rfl : setN d = sd := by simpa using hd1
      have HPp := Lib.hid (fun (W' : World) (hg : Grow V W') => code_place _ _ _ _ (setN p) W' (HL1.out.later hg))
      have HPq := Lib.hid (fun (W' : World) (hg : Grow V W') => code_place _ _ _ _ (setN q) W' (HL1.out.later hg))
      have hpp := set_plc k hk2.2 hk2.1 p (by rw [HSZ.out]; exact hpn)
      have hpq := set_plc k hk2.2 hk2.1 q (by rw [HSZ.out]; exact hqn)
      rw [HSZ.out] at hpp hpq
      rw [hpp] at HPp
      rw [hpq] at HPq
      have D1 := Lib.hid (fun W => digits_ref p W (by omega))
      have D2 := Lib.hid (fun W => digits_ref q W (by omega))
      have D3 := Lib.hid (fun W => digits_ref c W (by omega))
      have D4 := Lib.hid (fun W => digits_ref d W (by omega))
      obtain ⟨es1, z1⟩ := set_text (show p < 10 by omega)
      obtain ⟨es2, z2⟩ := set_text (show q < 10 by omega)
      obtain ⟨es3, z3⟩ := set_text (show c < 10 by omega)
      obtain ⟨es4, z4⟩ := set_text (show d < 10 by omega)
      have zz1 : ¬ 9223372036854775807 < 1 + (txt (digs p)).size := by omega
      obtain ⟨n1, hn1⟩ : ∃ s, setN p = s := ⟨_, rfl⟩
      have zz2 : ¬ 9223372036854775807 < 1 + (txt (digs q)).size := by omega
      obtain ⟨n2, hn2⟩ : ∃ s, setN q = s := ⟨_, rfl⟩
      have zz3 : ¬ 9223372036854775807 < 1 + (txt (digs c)).size := by omega
      obtain ⟨n3, hn3⟩ : ∃ s, setN c = s := ⟨_, rfl⟩
      have zz4 : ¬ 9223372036854775807 < 1 + (txt (digs d)).size := by omega
      obtain ⟨n4, hn4⟩ : ∃ s, setN d = s := ⟨_, rfl⟩
      rw [hn1] at es1 HPp
      rw [hn2] at es2 HPq
      rw [hn3] at es3 hc2
      rw [hn4] at es4 hd2
      obtain ⟨pj, hpj⟩ : ∃ x, aj.add p = x := ⟨_, rfl⟩
      obtain ⟨qj, hqj⟩ : ∃ x, bj.add q = x := ⟨_, rfl⟩
      obtain ⟨pm, hpm⟩ : ∃ x, am.add p = x := ⟨_, rfl⟩
      obtain ⟨qm, hqm⟩ : ∃ x, bm.add q = x := ⟨_, rfl⟩
      obtain ⟨pe, hpe⟩ : ∃ x, ae.add p = x := ⟨_, rfl⟩
      obtain ⟨qe, hqe⟩ : ∃ x, be.add q = x := ⟨_, rfl⟩
      obtain ⟨nc, hnc⟩ : ∃ x, an.add c = x := ⟨_, rfl⟩
      obtain ⟨nd, hnd⟩ : ∃ x, an.add d = x := ⟨_, rfl⟩
      rw [hpj] at j1
      rw [hqj] at j2
      rw [hpm] at m1
      rw [hqm] at m2
      rw [hpe] at e1
      rw [hqe] at e2
      rw [hnc] at hc2
      rw [hnd] at hd2
      have LC0 : Hid (∀ w', Grow V w' → ((w'.cell? ⟨w3.heap.size, 0, none⟩ = some (.slice (some an) n' cN) ∧ w'.cell? ⟨w3.heap.size, 1, none⟩ = some (.slice (some ae) n' cL) ∧ w'.cell? ⟨w3.heap.size, 2, none⟩ = some (.slice (some aj) n' cJ)) ∧ w'.cell? ⟨w3.heap.size, 3, none⟩ = some (.slice (some am) n' cM) ∧ w'.cell? ⟨w3.heap.size, 4, none⟩ = some (.int .i64 y1) ∧ w'.cell? ⟨w3.heap.size, 5, none⟩ = some (.int .i64 y2)) ∧ w'.cell? pj = some (.slice (some bj) n' dj) ∧ w'.cell? qj = some (.int .i64 c) ∧ w'.cell? pm = some (.slice (some bm) n' dm) ∧ w'.cell? qm = some (.int .i64 d) ∧ w'.cell? pe = some (.slice (some be) n' de) ∧ w'.cell? qe = some (.bool bq) ∧ w'.cell? nc = some (.string (tx n3)) ∧ w'.cell? nd = some (.string (tx n4))) := Lib.hid fun w' hG => ⟨(HC1.out.later hG).cells, grow_cellO hG j1, grow_cellO hG j2, grow_cellO hG m1, grow_cellO hG m2, grow_cellO hG e1, grow_cellO hG e2, grow_cellO hG hc2, grow_cellO hG hd2⟩
      have LC : ∀ w', Grow V.drew w' → _ := fun w' hG => LC0.out w' (Grow.trans (below_drewN (Grow.refl V) 1) hG)
      have p0' : (0 : Int) ≤ (p : Int) := by omega
      have q0' : (0 : Int) ≤ (q : Int) := by omega
      have c0' : (0 : Int) ≤ (c : Int) := by omega
      have d0' : (0 : Int) ≤ (d : Int) := by omega
      have pn' : (p : Int) < (n' : Int) := by omega
      have qn' : (q : Int) < (n' : Int) := by omega
      have cn' : (c : Int) < (n' : Int) := by omega
      have dn' : (d : Int) < (n' : Int) := by omega
      clear t1 t2 t3 tN hj1 hj2 hc hd ebq e9 hc1 hd1 hpp hpq j1 j2 m1 m2 e1 e2 hc2 hd2 hn1 hn2 hn3 hn4
      iterate 2
        refine wpLinU_step ?_ (fun w' hG K hK => ?_) (fun K hK => ?_)
        rotate_left
        · obtain ⟨⟨⟨p0, p1, p2⟩, p3, p4, p5⟩, q0, q1, q2, q3, q4, q5, q6, q7⟩ := LC w' hG
          unfold mvValU
          go_simp
          exact hK
        go_simp
        refine hK _ ?_
        clear hK K
      refine wpLinU_step (.string (txt (digs p))) (fun w' hG K hK => ?_) (fun K hK => ?_)
      · unfold mvValU
        go_simp
        exact ⟨_, (D1.out w').mono fun e w3 h => h, hK⟩
      go_simp
      refine hK _ ?_
      clear hK K
      iterate 1
        refine wpLinU_step ?_ (fun w' hG K hK => ?_) (fun K hK => ?_)
        rotate_left
        · obtain ⟨⟨⟨p0, p1, p2⟩, p3, p4, p5⟩, q0, q1, q2, q3, q4, q5, q6, q7⟩ := LC w' hG
          unfold mvValU
          go_simp
          exact hK
        go_simp
        refine hK _ ?_
        clear hK K
      refine wpLinU_step (.int .i64 (p : Int)) (fun w' hG K hK => ?_) (fun K hK => ?_)
      · unfold mvValU
        go_simp
        exact ⟨_, (HPp.out w' (Grow.trans (below_drewN (Grow.refl V) 1) hG)).mono fun e w3 h => h, hK⟩
      go_simp
      refine hK _ ?_
      clear hK K
      iterate 2
        refine wpLinU_step ?_ (fun w' hG K hK => ?_) (fun K hK => ?_)
        rotate_left
        · obtain ⟨⟨⟨p0, p1, p2⟩, p3, p4, p5⟩, q0, q1, q2, q3, q4, q5, q6, q7⟩ := LC w' hG
          unfold mvValU
          go_simp
          exact hK
        go_simp
        refine hK _ ?_
        clear hK K
      refine wpLinU_step (.string (txt (digs q))) (fun w' hG K hK => ?_) (fun K hK => ?_)
      · unfold mvValU
        go_simp
        exact ⟨_, (D2.out w').mono fun e w3 h => h, hK⟩
      go_simp
      refine hK _ ?_
      clear hK K
      iterate 1
        refine wpLinU_step ?_ (fun w' hG K hK => ?_) (fun K hK => ?_)
        rotate_left
        · obtain ⟨⟨⟨p0, p1, p2⟩, p3, p4, p5⟩, q0, q1, q2, q3, q4, q5, q6, q7⟩ := LC w' hG
          unfold mvValU
          go_simp
          exact hK
        go_simp
        refine hK _ ?_
        clear hK K
      refine wpLinU_step (.int .i64 (q : Int)) (fun w' hG K hK => ?_) (fun K hK => ?_)
      · unfold mvValU
        go_simp
        exact ⟨_, (HPq.out w' (Grow.trans (below_drewN (Grow.refl V) 1) hG)).mono fun e w3 h => h, hK⟩
      go_simp
      refine hK _ ?_
      clear hK K
      iterate 2
        refine wpLinU_step ?_ (fun w' hG K hK => ?_) (fun K hK => ?_)
        rotate_left
        · obtain ⟨⟨⟨p0, p1, p2⟩, p3, p4, p5⟩, q0, q1, q2, q3, q4, q5, q6, q7⟩ := LC w' hG
          unfold mvValU
          go_simp
          exact hK
        go_simp
        refine hK _ ?_
        clear hK K
      refine wpLinU_nil ?_
      intro w4 hG4
      have HG4 := Lib.hid (Grow.trans (below_drewN (Grow.refl V) 1) hG4)
      have LC1 : ∀ w', Grow w4.drew w' → _ := fun w' hG => LC0.out w' (Grow.trans HG4.out (Grow.trans (below_drewN (Grow.refl w4) 1) hG))
      have HA := Lib.hid (fun (w' : World) (hG : Grow w4.drew w') => awake_lab HK.out w' (H.out.later (Grow.trans HG2.out (Grow.trans HG4.out (Grow.trans (below_drewN (Grow.refl w4) 1) hG)))))
      clear LC hG4
      go_upto_region 17 with fail
      refine wp_region_mvu [(0, 66, true)] (by kernel_rfl) (by kernel_rfl) ?_
      simp only [mvAll, mvSeg, List.drop_zero, List.cons_append, List.nil_append, Nat.reduceAdd, List.append_eq]
      iterate 22
        refine wpLinU_step ?_ (fun w' hG K hK => ?_) (fun K hK => ?_)
        rotate_left
        · obtain ⟨⟨⟨p0, p1, p2⟩, p3, p4, p5⟩, q0, q1, q2, q3, q4, q5, q6, q7⟩ := LC1 w' hG
          unfold mvValU
          go_simp
          exact hK
        go_simp
        refine hK _ ?_
        clear hK K
      refine wpLinU_step (.string (txt (digs c))) (fun w' hG K hK => ?_) (fun K hK => ?_)
      · unfold mvValU
        go_simp
        exact ⟨_, (D3.out w').mono fun e w3 h => h, hK⟩
      go_simp
      refine hK _ ?_
      clear hK K
      iterate 19
        refine wpLinU_step ?_ (fun w' hG K hK => ?_) (fun K hK => ?_)
        rotate_left
        · obtain ⟨⟨⟨p0, p1, p2⟩, p3, p4, p5⟩, q0, q1, q2, q3, q4, q5, q6, q7⟩ := LC1 w' hG
          unfold mvValU
          go_simp
          exact hK
        go_simp
        refine hK _ ?_
        clear hK K
      refine wpLinU_step (.string (txt (digs d))) (fun w' hG K hK => ?_) (fun K hK => ?_)
      · unfold mvValU
        go_simp
        exact ⟨_, (D4.out w').mono fun e w3 h => h, hK⟩
      go_simp
      refine hK _ ?_
      clear hK K
      iterate 20
        refine wpLinU_step ?_ (fun w' hG K hK => ?_) (fun K hK => ?_)
        rotate_left
        · obtain ⟨⟨⟨p0, p1, p2⟩, p3, p4, p5⟩, q0, q1, q2, q3, q4, q5, q6, q7⟩ := LC1 w' hG
          unfold mvValU
          go_simp
          exact hK
        go_simp
        refine hK _ ?_
        clear hK K
      refine wpLinU_step (.bool true) (fun w' hG K hK => ?_) (fun K hK => ?_)
      · unfold mvValU
        go_simp
        exact ⟨_, (HA.out w' hG).mono fun e w3 h => h, hK⟩
      go_simp
      refine hK _ ?_
      clear hK K
      iterate 2
        refine wpLinU_step ?_ (fun w' hG K hK => ?_) (fun K hK => ?_)
        rotate_left
        · obtain ⟨⟨⟨p0, p1, p2⟩, p3, p4, p5⟩, q0, q1, q2, q3, q4, q5, q6, q7⟩ := LC1 w' hG
          unfold mvValU
          go_simp
          exact hK
        go_simp
        refine hK _ ?_
        clear hK K
      refine wpLinU_nil ?_
      intro w5 hG5
      have HE := Lib.hid (Grow.trans HG2.out (Grow.trans HG4.out (Grow.trans (below_drewN (Grow.refl w4) 1) hG5)))
      clear hG5
      go_wp2_with fail
      go_ret
      exact ⟨rfl, HE.out⟩

end Go.Proofs.YtlgfijjkbomejaaDoor
