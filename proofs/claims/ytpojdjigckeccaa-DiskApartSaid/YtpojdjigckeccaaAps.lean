/- DiskApart, walked. Numbers and types by name. -/
import Derived.Test.YtpojdjigckeccaaApt
namespace Go.Proofs.Ytpojdjigckeccaa
open Go.RowKit Go.Maps Go.Sort Go.WideMaps

def aName : ByteArray := ⟨#[97]⟩

/-- At an append to a slice that was made empty just now. -/
theorem append_copy {w : World} {ops : Array Oper} {rest : List Oper} {o : Oper} {a : Act} {Q : Exit → Act → World → Prop} (hgd : o.guard = none) (s x : Operand)
    (ho : o.op = .call { callee := .builtin .append, args := #[s, x], argTypes := #[33, 33] })
    (ad : Addr) (c H : Nat) (l : List UInt8) (hx : a.eval x = .slice (some ad) l.length c) (hr : Reads w (.slice (some ad) l.length c) (bv l)) (h0 : 0 < l.length) (hl : l.length ≤ 1000) (hs : a.eval s = .slice (some ⟨H, 0, none⟩) 0 0) (hH : w.heap[H]? = some (.cells #[] 5 (0, 0)))
    (h : ∀ g cap w', w'.ownsRow H 5 1 (.slice (some ⟨g, 0, none⟩) l.length cap) l.length (bv l) → w.grownBy w' (some H) → H ≤ g → g < w'.heap.size → wpList Try.prog ops Q rest (a.put o.dst (.slice (some ⟨g, 0, none⟩) l.length cap)) w') : wpList Try.prog ops Q (o :: rest) a w := by
  obtain ⟨i0, hi, hz0, hz1, hz2⟩ := info_parts info_byte
  have hlt : H < w.heap.size := lt_of hH
  have hown : w.ownsRow H 5 1 (.slice (some ⟨H, 0, none⟩) 0 0) 0 [] := ⟨rfl, .inr ⟨H, 0, #[], rfl, Nat.le_refl _, hH, Nat.le_refl _, Nat.zero_le _, rfl, rfl⟩⟩
  obtain ⟨ao, cap, e, _, hc⟩ := hr
  simp only [Value.slice.injEq] at e
  obtain ⟨rfl, _, rfl⟩ := e
  refine wpList_append_lies _ hgd s x 33 ho H 5 i0 (.int .u8 0) 1 1 Try.underlying33 hi hz0 hz1 hz2 rfl (by decide) (.slice (some ⟨H, 0, none⟩) 0 0) 0 [] hs hown ad l.length c (bv l) hx (by simp [bv_length]) (hc ad rfl) (bv_one l) h0 (by unfold maxLen; omega) (by omega) (by omega) _ rfl ?_
  intro g cap w' h1 h2 h3 h4
  rw [Nat.zero_add, List.nil_append] at h1
  rw [Nat.zero_add]
  refine h g cap w' h1 h2 ?_ h4
  rcases h3 with e | e
  · cases e; exact Nat.le_refl _
  · omega

set_option maxHeartbeats 1000000 in
set_option maxRecDepth 100000 in
theorem apart_walk (ad : Addr) (cB : Nat) (B : List UInt8) (w : World) (hB : Reads w (.slice (some ad) B.length cB) (bv B)) (hl0 : 0 < B.length) (hlB : B.length ≤ 500) (hcapB : B.length ≤ cB) :
    Calls Try.prog 8 #[.slice (some ad) B.length cB] w fun e w' => e = .returned (.bool true) ∧ Below w.heap.size w w' := by
  have HB := Lib.hid hB
  have k0 : ¬ (B = []) := by rintro rfl; simp at hl0
  have k01 : ¬ (B.length = 0) := by omega
  have k02 : (B.length == 0) = false := by simp [k0]
  have k03 : ¬ (0 = (B.length : Int)) := by omega
  have k04 : ¬ ((B.length : Int) = 0) := by omega
  have k05 : ((B.length : Int) == 0) = false := by simp [k0]
  have k2 : ¬ (500 : Int) < (B.length : Int) := by omega
  clear hB
  go_enter Try.func8, Try.ntmps8
  go_wp2_with fail
  refine (new_zeroP 5000 w).mono ?_
  rintro e w1 ⟨bd, rfl, hz, hg⟩
  unfold theDisk
  have B1 : Below w.heap.size w w1 := (below_of_grown hg).mono (Nat.le_refl _)
  have HZ := Lib.hid (hz.mono (Q := fun k => w.heap.size ≤ k ∧ k < w1.heap.size) fun k hk _ h => ⟨h, hk⟩)
  clear hz hg
  go_wp2_with fail
  refine (new_zeroP 5000 w1).mono ?_
  rintro e w2 ⟨bo, rfl, hz2, hg⟩
  unfold theDisk
  have B2 : Below w.heap.size w w2 := B1.trans ((below_of_grown hg).mono B1.size)
  have HZ1 := Lib.hid (HZ.out.away (F := []) (Turn.of_none hg) (by simp))
  have HO := Lib.hid hz2
  clear hz2 hg HZ B1
  go_wp2_with fail
  refine (create_oneP _ bd 5000 0 [] _ aName w2 HZ1.out (by omega) (by kernel_rfl) (by unfold maxLen; decide)).mono ?_
  rintro e w3 ⟨rfl, ho, hb3, G, hG, hGP⟩
  have B3 : Below w.heap.size w w3 := B2.trans (hb3.mono (Nat.le_refl _))
  have hs12 : w1.heap.size ≤ w2.heap.size := HO.out.1
  have hs23 : w2.heap.size ≤ w3.heap.size := hG.size
  -- the other disk's blocks, and that the first has none of them
  obtain ⟨bs, hbs⟩ : ∃ bs : Nat → Prop, bs = fun k => w1.heap.size ≤ k ∧ k < w2.heap.size ∧ ∃ c t f, w3.heap[k]? = some (.cells c t f) := ⟨_, rfl⟩
  have HO3 : Hid (ZeroP w3 w1.heap.size bo 5000 0 [] bs) := by
    have h1 := HO.out.mono (Q := fun k => w1.heap.size ≤ k ∧ k < w2.heap.size) fun k hk _ h => ⟨h, hk⟩
    have h2 := h1.away hG (fun k hk hx => by have := hGP k hx; omega)
    exact Lib.hid (h2.mono fun k _ hc h => by rw [hbs]; exact ⟨h.1, h.2, hc⟩)
  have HD3 : Hid (OneP w3 w.heap.size bd aName.data.toList [] 0 5000 1 [] (fun k => ¬ bs k ∧ k < w3.heap.size)) := by
    refine Lib.hid (ho.mono fun k hk h => ⟨fun hb => ?_, hk⟩)
    rw [hbs] at hb
    obtain ⟨q1, q2, c, t, f, q3⟩ := hb
    rcases h with h | h | ⟨es, cl, h⟩
    · omega
    · omega
    · rw [q3] at h; cases h
  have hbs2 : Hid (∀ k, bs k → k < w3.heap.size) := Lib.hid fun k hk => by rw [hbs] at hk; omega
  clear ho hb3 G hG hGP HZ1 HO B2 hs12 hs23 hbs
  go_wp2_with (at_builtin; refine append_copy rfl (.tmp 32) (.tmp 33) rfl ad cB w3.heap.size B rfl ((HB.out.below B3 (Nat.le_refl _)).alloc _) hl0 (by omega) rfl (heap_alloc_new w3 _) ?_; intro g cg w4 hown4 hgrow4 hg4 hlt4)
  have T4 : Turn [] w3 w4 := ((Turn.refl [] w3).alloc _).trans' (Turn.of_grown (F := [w3.heap.size]) hgrow4 (by simp)) (by intro x hx; simp at hx; right; omega)
  have B4 : Below w.heap.size w w4 := B3.trans (T4.below B3.size (by simp))
  have HB4 := HB.out.below B4 (Nat.le_refl _)
  have hs34 := T4.size
  have hdlt := (HD3.out.one).lt
  have hv4 : Reads w4 (.slice (some ⟨g, 0, none⟩) B.length cg) (bv B) := owns_reads hown4
  refine (append_oneP _ bd _ _ 0 5000 _ [] _ aName (.slice (some ⟨g, 0, none⟩) B.length cg) B w4 (HD3.out.away T4 (by simp)) (by omega) rfl (by unfold maxLen; decide) hv4 (fun _ a n c e => by cases e; show g ≠ bd; omega) (by simp; omega) (by simp; omega)).mono ?_
  rintro e w5 ⟨rfl, ho, hb5, G, hG, hGP⟩
  rw [List.nil_append] at ho
  have B5 : Below w.heap.size w w5 := B4.trans (hb5.mono (Nat.le_refl _))
  have HO5 := Lib.hid ((HO3.out.away T4 (by simp)).away hG (fun k hk hx => (hGP k hx).1 hk))
  have hown5 := owns_turn hown4 hG (fun k hk hx => by cases hk; have := (hGP g hx).2; omega)
  have hglt5 : g < w5.heap.size := Nat.lt_of_lt_of_le hlt4 hG.size
  have hbs5 : Hid (∀ k, bs k → k < g) := Lib.hid fun k hk => by have := hbs2.out k hk; omega
  have HD5 := Lib.hid (ho.mono (Q := fun k => ¬ bs k ∧ k ≠ g ∧ k < w5.heap.size) fun k hk h => by
    rcases h with h | h
    · exact ⟨h.1, by omega, hk⟩
    · exact ⟨fun hb => by have := hbs5.out k hb; omega, by omega, hk⟩)
  obtain ⟨b0, Bt, hBB⟩ : ∃ b0 Bt, B = b0 :: Bt := by cases B with
    | nil => simp at hl0
    | cons x t => exact ⟨x, t, rfl⟩
  have hbv0 : (bv B)[0]? = some (.int .u8 (b0.toNat : Int)) := by rw [hBB]; rfl
  have h0 := (hown5.cellAt 0 (by omega)).trans hbv0
  have hf0 : w5.frozen? ⟨g, 0, none⟩ = false := by
    rcases hown5.2 with ⟨h, _⟩ | ⟨g', cap, cur, h, _, hg, _⟩
    · cases h
    · cases h; exact free_of hg 0
  have hk0 : (0 : Int) < (B.length : Int) := by omega
  have HG := Lib.hid (And.intro hg4 hglt5)
  clear ho hb5 hG hGP hown4 hown5 hgrow4 T4 HB4 hs34 hdlt hv4 HD3 HO3 hbs2 B4 hg4 hlt4 hglt5 hBB
  go_wp2_with fail
  obtain ⟨w6, hw6⟩ : ∃ w6, w6 = w5.setCell ⟨g, 0, none⟩ (.int .u8 (((b0.toNat : Int) + 1) % 256)) := ⟨_, rfl⟩
  rw [← hw6]
  have hgw : w.heap.size ≤ g := by have := HG.out.1; have := B3.size; omega
  have T6 : Turn [g] w5 w6 := by rw [hw6]; exact (Turn.refl [g] w5).set (.inl (by simp)) 0 _
  have B6 : Below w.heap.size w w6 := B5.trans (T6.below B5.size (by simpa using hgw))
  have HD6 := Lib.hid (HD5.out.away T6 (fun k hk => by simp; exact hk.2.1))
  have HO6 := Lib.hid (HO5.out.away T6 (fun k hk => by simp; have := hbs5.out k hk; omega))
  have hs56 : w5.heap.size ≤ w6.heap.size := T6.size
  clear hw6 T6 HD5 HO5 h0 hf0 B5
  refine (read_one _ bd _ _ _ 5000 _ [] aName w6 HD6.out.one rfl (by unfold maxLen; decide) (by omega)).mono ?_
  rintro e w7 ⟨ao, c7, rfl, hown, hg7⟩
  obtain ⟨g7, c7', e7, hge7, hlt7⟩ := hown.form hl0
  simp only [Value.slice.injEq] at e7
  obtain ⟨rfl, _, rfl⟩ := e7
  have T7 : Turn [] w6 w7 := Turn.of_none hg7
  have B7 : Below w.heap.size w w7 := B6.trans (T7.below B6.size (by simp))
  have HD7 := Lib.hid (HD6.out.away T7 (by simp))
  have HO7 := Lib.hid (HO6.out.away T7 (by simp))
  have h0 := (hown.cellAt 0 (by omega)).trans hbv0
  have hf0 : w7.frozen? ⟨g7, 0, none⟩ = false := by
    rcases hown.2 with ⟨h, _⟩ | ⟨g', cap, cur, h, _, hg, _⟩
    · cases h
    · cases h; exact free_of hg 0
  obtain ⟨sB, hsB⟩ : ∃ sB : ByteArray, sB = ⟨B.toArray⟩ := ⟨_, rfl⟩
  have cv1 : (convert 33 9 (.slice (some ⟨g7, 0, none⟩) B.length c7)).run Try.prog w7 = .ok (.string sB) w7 := by rw [hsB]; exact conv_reads (owns_reads hown)
  have cv2 : (convert 33 9 (.slice (some ad) B.length cB)).run Try.prog w7 = .ok (.string sB) w7 := by rw [hsB]; exact conv_reads (HB.out.below B7 (Nat.le_refl _))
  have HS := Lib.hid hsB
  have HG7 := Lib.hid (And.intro hge7 hlt7)
  clear hown hge7 hlt7 hsB T7 HD6 HO6 B6 hg7
  go_wp2_with fail
  obtain ⟨w8, hw8⟩ : ∃ w8, w8 = w7.setCell ⟨g7, 0, none⟩ (.int .u8 (((b0.toNat : Int) + 1) % 256)) := ⟨_, rfl⟩
  rw [← hw8]
  have hs67 : w6.heap.size ≤ g7 := HG7.out.1
  have hg5 : g < w5.heap.size := HG.out.2
  have T8 : Turn [g7] w7 w8 := by rw [hw8]; exact (Turn.refl [g7] w7).set (.inl (by simp)) 0 _
  have B8 : Below w.heap.size w w8 := B7.trans (T8.below B7.size (by simp; omega))
  have HD8 := Lib.hid (HD7.out.away T8 (fun k hk => by simp; omega))
  have HO8 := Lib.hid (HO7.out.away T8 (fun k hk => by simp; have := hbs5.out k hk; omega))
  have hs78 : g7 < w8.heap.size := Nat.lt_of_lt_of_le HG7.out.2 T8.size
  clear hw8 T8 HD7 HO7 h0 hf0 B7 cv1 cv2
  refine (files_one _ bd _ _ _ 5000 _ [] w8 HD8.out.one (by unfold maxLen; decide) (by omega)).mono ?_
  rintro e w9 ⟨g9, c9, aob, cb, rfl, hg9, x0, x1, x2, hbo, hg⟩
  obtain ⟨g10, c10', e10, hge10, hlt10⟩ := hbo.form hl0
  simp only [Value.slice.injEq] at e10
  obtain ⟨rfl, _, rfl⟩ := e10
  have T9 : Turn [] w8 w9 := Turn.of_none hg
  have B9 : Below w.heap.size w w9 := B8.trans (T9.below B8.size (by simp))
  have HD9 := Lib.hid (HD8.out.away T9 (by simp))
  have HO9 := Lib.hid (HO8.out.away T9 (by simp))
  have h0 := (hbo.cellAt 0 (by omega)).trans hbv0
  have hf0 : w9.frozen? ⟨g10, 0, none⟩ = false := by
    rcases hbo.2 with ⟨h, _⟩ | ⟨g', cap, cur, h, _, hg, _⟩
    · cases h
    · cases h; exact free_of hg 0
  have cv1 : ∀ n, (convert 33 9 (.slice (some ⟨g10, 0, none⟩) B.length cb)).run Try.prog (w9.drewN n) = .ok (.string sB) (w9.drewN n) := fun n => by rw [HS.out]; exact conv_reads ((owns_reads hbo).turn ((Turn.refl [] w9).drewN n) (by simp))
  have cv2 : ∀ n, (convert 33 9 (.slice (some ad) B.length cB)).run Try.prog (w9.drewN n) = .ok (.string sB) (w9.drewN n) := fun n => by rw [HS.out]; exact conv_reads ((HB.out.below B9 (Nat.le_refl _)).turn ((Turn.refl [] w9).drewN n) (by simp))
  have HG10 := Lib.hid (And.intro hge10 hlt10)
  clear hbo hge10 hlt10 T9 HD8 HO8 B8 hg hg9
  go_wp2_with fail
  go_quiet (fail)
  go_wp2_with fail
  have D9 : Turn [] w9 (w9.drewN nq) := (Turn.refl [] w9).drewN nq
  obtain ⟨w10, hw10⟩ : ∃ w10, w10 = w9.drewN nq := ⟨_, rfl⟩
  have B10 : Below w.heap.size w w10 := by rw [hw10]; exact B9.trans (D9.below B9.size (by simp))
  have HD10 : Hid (OneP w10 _ _ _ _ _ _ _ _ _) := Lib.hid (by rw [hw10]; exact HD9.out.away D9 (by simp))
  have HO10 : Hid (ZeroP w10 _ _ _ _ _ _) := Lib.hid (by rw [hw10]; exact HO9.out.away D9 (by simp))
  have HS10 : Hid (w10.heap.size = w9.heap.size) := Lib.hid (by rw [hw10]; rfl)
  rw [show w9.cell? ⟨g9, 1, none⟩ = w10.cell? ⟨g9, 1, none⟩ from by rw [hw10]; rfl] at x1
  rw [show w9.cell? ⟨g10, 0, none⟩ = w10.cell? ⟨g10, 0, none⟩ from by rw [hw10]; rfl] at h0
  rw [show w9.frozen? ⟨g10, 0, none⟩ = w10.frozen? ⟨g10, 0, none⟩ from by rw [hw10]; rfl] at hf0
  rw [← hw10]
  clear hw10 D9 HD9 HO9 B9 cv1 cv2 x0 x2
  go_region
  all_goals go_wp2_with fail
  obtain ⟨w11, hw11⟩ : ∃ w11, w11 = (w10.setCell ⟨g10, 0, none⟩ (.int .u8 (((b0.toNat : Int) + 1) % 256))).drew := ⟨_, rfl⟩
  rw [← hw11]
  have hs810 : w8.heap.size ≤ g10 := HG10.out.1
  have hg10l : g10 < w10.heap.size := by rw [HS10.out]; exact HG10.out.2
  have T11 : Turn [g10] w10 w11 := by rw [hw11]; exact ((Turn.refl [g10] w10).set (.inl (by simp)) 0 _).drew
  have B11 : Below w.heap.size w w11 := B10.trans (T11.below B10.size (by simp; omega))
  have HD11 := Lib.hid (HD10.out.away T11 (fun k hk => by simp; omega))
  have HO11 := Lib.hid (HO10.out.away T11 (fun k hk => by simp; have := hbs5.out k hk; omega))
  clear hw11 T11 HD10 HO10 h0 hf0 B10 x1
  refine (read_one _ bd _ _ _ 5000 _ [] aName w11 HD11.out.one rfl (by unfold maxLen; decide) (by omega)).mono ?_
  rintro e w12 ⟨ao, c12, rfl, hown, hg12⟩
  have T12 : Turn [] w11 w12 := Turn.of_none hg12
  have B12 : Below w.heap.size w w12 := B11.trans (T12.below B11.size (by simp))
  have HO12 := Lib.hid (HO11.out.away T12 (by simp))
  have cv1 : (convert 33 9 (.slice ao B.length c12)).run Try.prog w12 = .ok (.string sB) w12 := by rw [HS.out]; exact conv_reads (owns_reads hown)
  have cv2 : (convert 33 9 (.slice (some ad) B.length cB)).run Try.prog w12 = .ok (.string sB) w12 := by rw [HS.out]; exact conv_reads (HB.out.below B12 (Nat.le_refl _))
  have HX := Lib.hid (And.intro B12 HO12.out)
  clear hown T12 HD11 HO11 B11 hg12 HO12 B12
  go_wp2_with fail
  refine (num_any _ _).mono ?_
  rintro e w' ⟨rfl, rfl⟩
  go_wp2_with fail
  refine (files_zero _ bo 5000 0 [] w12 HX.out.2.zero).mono ?_
  rintro e w13 ⟨ao2, c13, rfl, hg13⟩
  have B13 := Lib.hid (HX.out.1.trans ((Turn.of_none (F := []) hg13).below HX.out.1.size (by simp)))
  clear hg13 HX cv1 cv2
  go_wp2_with (go_at_call 13; refine (awake_any _).mono ?_; rintro e w' ⟨rfl, hb9⟩)
  go_ret
  exact ⟨rfl, B13.out.trans (hb9.mono B13.out.size)⟩

set_option maxHeartbeats 1000000 in
set_option maxRecDepth 100000 in
theorem apart_zero (ao : Option Addr) (c : Nat) (w : World) :
    Calls Try.prog 8 #[.slice ao 0 c] w fun e w' => e = .returned (.bool true) ∧ Below w.heap.size w w' := by
  go_enter Try.func8, Try.ntmps8
  go_wp2_with (go_at_call 13; refine (awake_any _).mono ?_; rintro e w' ⟨rfl, hb9⟩)
  go_ret
  exact ⟨rfl, hb9⟩

set_option maxHeartbeats 1000000 in
set_option maxRecDepth 100000 in
theorem apart_big (ao : Option Addr) (l c : Nat) (w : World) (h : 500 < l) (hm : l ≤ maxLen) :
    Calls Try.prog 8 #[.slice ao l c] w fun e w' => e = .returned (.bool true) ∧ Below w.heap.size w w' := by
  unfold maxLen at hm
  have k0 : ¬ (l = 0) := by omega
  have k1 : (500 : Int) < (l : Int) := by omega
  have k2 : ¬ ((l : Int) = 0) := by omega
  go_enter Try.func8, Try.ntmps8
  go_wp2_with (go_at_call 13; refine (awake_any _).mono ?_; rintro e w' ⟨rfl, hb9⟩)
  go_ret
  exact ⟨rfl, hb9⟩

end Go.Proofs.Ytpojdjigckeccaa
