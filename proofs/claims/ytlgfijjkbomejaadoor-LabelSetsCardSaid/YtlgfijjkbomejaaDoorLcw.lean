/- The code's closure. Numbers and types by name. -/
import Derived.Test.YtlgfijjkbomejaaDoorLtc
namespace Go.Proofs.YtlgfijjkbomejaaDoor
open Go.RowKit Go.Lib
set_option maxRecDepth 100000

/-- It has b, and is within all that is reflexive, goes on, and has b. -/
structure CloI (n : Nat) (b g : Nat → Nat → Bool) : Prop where
  base : ∀ x y, x < n → y < n → b x y = true → g x y = true
  least : ∀ T : Nat → Nat → Prop, (∀ x, x < n → T x x) → (∀ x y z, x < n → y < n → z < n → T x y → T y z → T x z) → (∀ x y, x < n → y < n → b x y = true → T x y) → ∀ x y, x < n → y < n → g x y = true → T x y
theorem CloI.refl (n : Nat) (b : Nat → Nat → Bool) : CloI n b b := ⟨fun _ _ _ _ h => h, fun _ _ _ h x y hx hy hb => h x y hx hy hb⟩
theorem upd_mono {g : Nat → Nat → Bool} {a c x y : Nat} (h : g x y = true) : updB g a c true x y = true := by
  unfold updB
  split
  · rfl
  · exact h
theorem upd_at (g : Nat → Nat → Bool) (a c : Nat) (z : Bool) : updB g a c z a c = z := by simp [updB]
theorem CloI.diag {n : Nat} {b g : Nat → Nat → Bool} (h : CloI n b g) (a : Nat) : CloI n b (updB g a a true) := by
  refine ⟨fun x y hx hy hb => upd_mono (h.base x y hx hy hb), fun T t1 t2 t3 x y hx hy hg => ?_⟩
  unfold updB at hg
  split at hg
  · rename_i e
    obtain ⟨rfl, rfl⟩ := e
    exact t1 _ hx
  · exact h.least T t1 t2 t3 x y hx hy hg
theorem CloI.via {n : Nat} {b g : Nat → Nat → Bool} (h : CloI n b g) {a c v : Nat} (ha : a < n) (hc : c < n) (hv : v < n) (h1 : g a v = true) (h2 : g v c = true) : CloI n b (updB g a c true) := by
  refine ⟨fun x y hx hy hb => upd_mono (h.base x y hx hy hb), fun T t1 t2 t3 x y hx hy hg => ?_⟩
  unfold updB at hg
  split at hg
  · rename_i e
    obtain ⟨rfl, rfl⟩ := e
    exact t2 _ v _ hx hv hy (h.least T t1 t2 t3 _ v ha hv h1) (h.least T t1 t2 t3 v _ hv hc h2)
  · exact h.least T t1 t2 t3 x y hx hy hg
/-- By way of those below r alone. -/
def WayP (b : Nat → Nat → Bool) : Nat → Nat → Nat → Prop
  | 0, x, y => x = y ∨ b x y = true
  | r + 1, x, y => WayP b r x y ∨ (WayP b r x r ∧ WayP b r r y)
theorem WayP.here (b : Nat → Nat → Bool) : ∀ r x, WayP b r x x
  | 0, _ => .inl rfl
  | r + 1, x => .inl (WayP.here b r x)
theorem WayP.base {b : Nat → Nat → Bool} {x y : Nat} (h : b x y = true) : ∀ r, WayP b r x y
  | 0 => .inr h
  | r + 1 => .inl (WayP.base h r)
theorem WayP.via {b : Nat → Nat → Bool} : ∀ (r k : Nat) {x y : Nat}, k < r → WayP b r x k → WayP b r k y → WayP b r x y
  | 0, k, _, _, hk, _, _ => by omega
  | r + 1, k, x, y, hk, h1, h2 => by
    rcases Nat.lt_or_ge k r with hlt | hge
    · rcases h1 with h1 | ⟨h1, h1'⟩
      · rcases h2 with h2 | ⟨h2, h2'⟩
        · exact .inl (WayP.via r k hlt h1 h2)
        · exact .inr ⟨WayP.via r k hlt h1 h2, h2'⟩
      · rcases h2 with h2 | ⟨h2, h2'⟩
        · exact .inr ⟨h1, WayP.via r k hlt h1' h2⟩
        · exact .inr ⟨h1, h2'⟩
    · obtain rfl : k = r := by omega
      have e1 : WayP b k x k := by rcases h1 with h1 | ⟨h1, _⟩ <;> exact h1
      have e2 : WayP b k k y := by rcases h2 with h2 | ⟨_, h2⟩ <;> exact h2
      exact .inr ⟨e1, e2⟩
theorem CloI.clos {n : Nat} {b g : Nat → Nat → Bool} (h : CloI n b g) (hr : ∀ x, x < n → g x x = true) (hw : ∀ x y, x < n → y < n → WayP b n x y → g x y = true) : Clos n b g := by
  refine ⟨hr, fun x y z hx hy hz h1 h2 => ?_, h.base, h.least⟩
  have t2 : ∀ x y z, x < n → y < n → z < n → WayP b n x y → WayP b n y z → WayP b n x z := fun x y z _ hy _ a c => WayP.via n y hy a c
  have e1 := h.least (WayP b n) (fun x _ => WayP.here b n x) t2 (fun x y _ _ hb => WayP.base hb n) x y hx hy h1
  have e2 := h.least (WayP b n) (fun x _ => WayP.here b n x) t2 (fun x y _ _ hb => WayP.base hb n) y z hy hz h2
  exact hw x z hx hz (t2 x y z hx hy hz e1 e2)

/-- While a round is under way: all that it had, and what it made. -/
structure RndI (n : Nat) (b g : Nat → Nat → Bool) (r a c : Nat) : Prop where
  clo : CloI n b g
  refl : ∀ x, x < n → g x x = true
  old : ∀ x y, x < n → y < n → WayP b r x y → g x y = true
  rows : ∀ x y, x < a → y < n → WayP b (r + 1) x y → g x y = true
  cells : ∀ y, y < c → WayP b (r + 1) a y → g a y = true
theorem RndI.upd {n : Nat} {b g : Nat → Nat → Bool} {r a c v : Nat} (h : RndI n b g r a c) (ha : a < n) (hc : c < n) (hv : v < n) (h1 : g a v = true) (h2 : g v c = true) : RndI n b (updB g a c true) r a (c + 1) := by
  refine ⟨h.clo.via ha hc hv h1 h2, fun x hx => upd_mono (h.refl x hx), fun x y hx hy hw => upd_mono (h.old x y hx hy hw), fun x y hx hy hw => upd_mono (h.rows x y hx hy hw), fun y hy hw => ?_⟩
  rcases Nat.lt_or_ge y c with h3 | h3
  · exact upd_mono (h.cells y h3 hw)
  · obtain rfl : y = c := by omega
    exact upd_at g a y true
theorem RndI.keep {n : Nat} {b g : Nat → Nat → Bool} {r a c : Nat} (h : RndI n b g r a c) (ha : a < n) (hc : c < n) (hr : r < n) (hn : ∀ v, v < n → g a v = false ∨ g v c = false) : RndI n b g r a (c + 1) := by
  refine ⟨h.clo, h.refl, h.old, h.rows, fun y hy hw => ?_⟩
  rcases Nat.lt_or_ge y c with h3 | h3
  · exact h.cells y h3 hw
  · obtain rfl : y = c := by omega
    rcases hw with hw | ⟨h1, h2⟩
    · exact h.old a y ha hc hw
    · rcases hn r hr with h4 | h4
      · rw [h.old a r ha hr h1] at h4; cases h4
      · rw [h.old r y hr hc h2] at h4; cases h4
theorem RndI.row {n : Nat} {b g : Nat → Nat → Bool} {r a : Nat} (h : RndI n b g r a n) : RndI n b g r (a + 1) 0 := by
  refine ⟨h.clo, h.refl, h.old, fun x y hx hy hw => ?_, fun y hy => by omega⟩
  rcases Nat.lt_or_ge x a with h3 | h3
  · exact h.rows x y h3 hy hw
  · obtain rfl : x = a := by omega
    exact h.cells y hy hw
theorem RndI.round {n : Nat} {b g : Nat → Nat → Bool} {r : Nat} (h : RndI n b g r n 0) : RndI n b g (r + 1) 0 0 :=
  ⟨h.clo, h.refl, h.rows, fun x y hx => by omega, fun y hy => by omega⟩

/-- What closure leaves. -/
def CloTold (w : World) (base O C n : Nat) (R cp : Nat → Nat) (b : Nat → Nat → Bool) (e : Ending) (w' : World) : Prop :=
  e = .returned (.tuple #[]) ∧ Chg (rowsF n R) w w' ∧ ∃ f, Clos n b f ∧ Mat w' base O C n R cp f

set_option maxHeartbeats 8000000 in
theorem code_closure (base O C n : Nat) (R cp : Nat → Nat) (b : Nat → Nat → Bool) (w : World) (h : Mat w base O C n R cp b) (hn : n ≤ 1000) :
    Calls Tryd.prog 15 #[.slice (some ⟨O, 0, none⟩) n C] w (CloTold w base O C n R cp b) := by
  have H := Lib.hid h
  clear h
  go_enter Tryd.func15, Tryd.ntmps15
  go_wp2_with fail
  go_loopw [8] (fun i wr => ∃ k : Nat, k ≤ n ∧ i = .int .i64 k ∧ Hid (Chg (rowsF n R) w wr ∧ ∃ g, Mat wr base O C n R cp g ∧ CloI n b g ∧ ∀ x, x < k → g x x = true))
    (fun i _ => n - (RowKit.intOf i).toNat)
  case atStart => exact ⟨0, Nat.zero_le _, rfl, Lib.hid ⟨Chg.refl _ _, b, H.out, CloI.refl n b, fun x hx => by omega⟩⟩
  case round =>
    obtain ⟨k, hk, rfl, hs⟩ := hrel
    by_cases h1 : k < n
    · have h3 : (k : Int) < (n : Int) := by omega
      obtain ⟨hC, g, hM, hI, hD⟩ := hs.out
      have c1 := hM.outer k h1
      obtain ⟨m1, f1⟩ := hM.at h1 h1
      have HX := Lib.hid (And.intro hC (And.intro hM (And.intro hI hD)))
      clear hC hM hI hD hs
      go_wp2_with fail
      refine ⟨⟨k + 1, by omega, by go_num, Lib.hid ⟨HX.out.1.set (.inl (rowsF_mem h1)) _ _, _, HX.out.2.1.set h1 k true, HX.out.2.2.1.diag k, fun x hx => ?_⟩⟩, by simp [RowKit.intOf]; omega⟩
      by_cases hxk : x < k
      · exact upd_mono (HX.out.2.2.2 x hxk)
      · obtain rfl : x = k := by omega
        exact upd_at g x x true
    · have h3 : ¬ (k : Int) < (n : Int) := by omega
      obtain rfl : k = n := by omega
      have HI : Hid (Chg (rowsF k R) w wr ∧ ∃ g, Mat wr base O C k R cp g ∧ RndI k b g 0 0 0) := Lib.hid (by
        obtain ⟨hC, g, hM, hI, hD⟩ := hs.out
        refine ⟨hC, g, hM, hI, hD, fun x y hx hy hw => ?_, fun x y hx => by omega, fun y hy => by omega⟩
        rcases hw with rfl | hw
        · exact hD x hx
        · exact hI.base x y hx hy hw)
      clear hs
      go_wp2_with fail
      go_loopw [20] (fun i wr => ∃ r : Nat, r ≤ k ∧ i = .int .i64 r ∧ Hid (Chg (rowsF k R) w wr ∧ ∃ g, Mat wr base O C k R cp g ∧ RndI k b g r 0 0))
        (fun i _ => k - (RowKit.intOf i).toNat)
      case atStart => exact ⟨0, Nat.zero_le _, rfl, HI⟩
      case round =>
        clear HI
        obtain ⟨r, hr, rfl, hs⟩ := hrel
        by_cases h4 : r < k
        · have h5 : (r : Int) < (k : Int) := by omega
          go_wp2_with fail
          go_loopw [24] (fun i wr => ∃ a : Nat, a ≤ k ∧ i = .int .i64 a ∧ Hid (Chg (rowsF k R) w wr ∧ ∃ g, Mat wr base O C k R cp g ∧ RndI k b g r a 0))
            (fun i _ => k - (RowKit.intOf i).toNat)
          case atStart => exact ⟨0, Nat.zero_le _, rfl, hs⟩
          case round =>
            clear hs
            obtain ⟨a, ha, rfl, hs⟩ := hrel
            by_cases h6 : a < k
            · have h7 : (a : Int) < (k : Int) := by omega
              go_wp2_with fail
              try go_step3
              try go_wp2_with fail
              try go_step3
              try go_wp2_with fail
              go_loopw [29] (fun i wr => ∃ c : Nat, c ≤ k ∧ i = .int .i64 c ∧ Hid (Chg (rowsF k R) w wr ∧ ∃ g, Mat wr base O C k R cp g ∧ RndI k b g r a c))
                (fun i _ => k - (RowKit.intOf i).toNat)
              case atStart => exact ⟨0, Nat.zero_le _, rfl, hs⟩
              case round =>
                clear hs
                obtain ⟨c, hc, rfl, hs⟩ := hrel
                by_cases h8 : c < k
                · have h9 : (c : Int) < (k : Int) := by omega
                  obtain ⟨wq, hwq⟩ : ∃ wq, wq = wr := ⟨_, rfl⟩
                  rw [← hwq] at hs ⊢
                  clear hwq
                  obtain ⟨hC, g, hM, hI⟩ := hs.out
                  have HX := Lib.hid (And.intro hC (And.intro hM hI))
                  clear hC hM hI hs
                  go_wp2_with fail
                  go_loopw [34] (fun i wr => ∃ v q : Nat, v ≤ k ∧ i = .int .i64 v ∧ wr = wq.drewN q ∧ Hid (∀ x, x < v → g a x = false ∨ g x c = false))
                    (fun i _ => k - (RowKit.intOf i).toNat)
                  case atStart => exact ⟨0, 0, Nat.zero_le _, rfl, rfl, Lib.hid (fun x hx => by omega)⟩
                  case round =>
                    obtain ⟨v, q, hv, rfl, rfl, hz⟩ := hrel
                    by_cases h10 : v < k
                    · have h11 : (v : Int) < (k : Int) := by omega
                      have c1 := HX.out.2.1.outer a h6
                      have c2 := HX.out.2.1.outer v h10
                      obtain ⟨m1, _⟩ := HX.out.2.1.at h6 h10
                      obtain ⟨m2, _⟩ := HX.out.2.1.at h10 h8
                      obtain ⟨m3, f3⟩ := HX.out.2.1.at h6 h8
                      cases hf : g a v with
                      | false =>
                        rw [hf] at m1
                        have HF := Lib.hid hf
                        clear hf
                        go_wp2_with fail
                        refine ⟨⟨v + 1, q, by omega, by go_num, rfl, Lib.hid (fun x hx => ?_)⟩, by simp [RowKit.intOf]; omega⟩
                        by_cases hxv : x < v
                        · exact hz.out x hxv
                        · obtain rfl : x = v := by omega
                          exact .inl HF.out
                      | true =>
                        rw [hf] at m1
                        have HF := Lib.hid hf
                        clear hf
                        cases hf : g v c with
                        | false =>
                          rw [hf] at m2
                          have HK := Lib.hid hf
                          clear hf
                          go_wp2_with fail
                          refine ⟨⟨v + 1, q, by omega, by go_num, rfl, Lib.hid (fun x hx => ?_)⟩, by simp [RowKit.intOf]; omega⟩
                          by_cases hxv : x < v
                          · exact hz.out x hxv
                          · obtain rfl : x = v := by omega
                            exact .inr HK.out
                        | true =>
                          rw [hf] at m2
                          have HK := Lib.hid hf
                          clear hf
                          go_wp2_with fail
                          exact ⟨⟨c + 1, by omega, by go_num, Lib.hid ⟨(HX.out.1.drewN q).set (.inl (rowsF_mem h6)) _ _, _, (HX.out.2.1.drewN q).set h6 c true, HX.out.2.2.upd h6 h8 h10 HF.out HK.out⟩⟩, by simp [RowKit.intOf]; omega⟩
                    · have h11 : ¬ (v : Int) < (k : Int) := by omega
                      obtain rfl : v = k := by omega
                      go_wp2_with fail
                      exact ⟨⟨c + 1, by omega, by go_num, Lib.hid ⟨HX.out.1.drewN q, g, HX.out.2.1.drewN q, HX.out.2.2.keep h6 h8 h4 hz.out⟩⟩, by simp [RowKit.intOf]; omega⟩
                · have h9 : ¬ (c : Int) < (k : Int) := by omega
                  obtain rfl : c = k := by omega
                  go_wp2_with fail
                  refine ⟨⟨a + 1, by omega, by go_num, Lib.hid ?_⟩, by simp [RowKit.intOf]; omega⟩
                  obtain ⟨hC, g, hM, hI⟩ := hs.out
                  exact ⟨hC, g, hM, hI.row⟩
            · have h7 : ¬ (a : Int) < (k : Int) := by omega
              obtain rfl : a = k := by omega
              go_wp2_with fail
              refine ⟨⟨r + 1, by omega, by go_num, Lib.hid ?_⟩, by simp [RowKit.intOf]; omega⟩
              obtain ⟨hC, g, hM, hI⟩ := hs.out
              exact ⟨hC, g, hM, hI.round⟩
        · have h5 : ¬ (r : Int) < (k : Int) := by omega
          obtain rfl : r = k := by omega
          go_wp2_with fail
          go_end0
          obtain ⟨hC, g, hM, hI⟩ := hs.out
          exact ⟨rfl, hC, g, hI.clo.clos hI.refl hI.old, hM⟩

end Go.Proofs.YtlgfijjkbomejaaDoor
