/- The code's circular, least at its two closures. Made by wip/tools/genlea.py. Numbers and types by name. -/
import Derived.Test.YtlgfijjkbomejaaDoorLla
namespace Go.Proofs.YtlgfijjkbomejaaDoor
open Go.RowKit Go.Lib
set_option maxRecDepth 100000

theorem circ_of {n : Nat} {f : Nat → Nat → Bool} {x y : Nat} (hx : x < n) (hy : y < n) (hne : x ≠ y) (h1 : f x y = true) (h2 : f y x = true) : circP n f = true := by
  cases h : circP n f with
  | true => rfl
  | false => exact absurd (circP_iff.1 h x y hx hy h1 h2) hne
theorem circ_not {n : Nat} {f : Nat → Nat → Bool} (h : ∀ x y, x < n → y < x → f x y = false ∨ f y x = false) : circP n f = false := by
  refine circP_iff.2 fun a b ha hb h1 h2 => ?_
  rcases Nat.lt_trichotomy a b with h3 | h3 | h3
  · rcases h b a hb h3 with h4 | h4
    · rw [h2] at h4; cases h4
    · rw [h1] at h4; cases h4
  · exact h3
  · rcases h a b ha h3 with h4 | h4
    · rw [h1] at h4; cases h4
    · rw [h2] at h4; cases h4

set_option maxHeartbeats 4000000 in
theorem code_circular (v : Value) (n : Nat) (f : Nat → Nat → Bool) (w : World) (h : TabV w v n n (bB f)) (hn : n ≤ 1000) :
    Calls Tryd.prog 18 #[v] w fun e w' => e = .returned (.bool (circP n f)) ∧ ∃ q, w' = w.drewN q := by
  obtain ⟨ao, cp, rfl⟩ := h.shape
  have H := Lib.hid h
  clear h
  go_enter Tryd.func18, Tryd.ntmps18
  go_wp2_with fail
  go_loopw [7] (fun i wr => ∃ k q : Nat, k ≤ n ∧ i = .int .i64 k ∧ Hid (∀ x y, x < k → y < x → f x y = false ∨ f y x = false) ∧ wr = w.drewN q)
    (fun i _ => n - (RowKit.intOf i).toNat)
  case atStart => exact ⟨0, 0, Nat.zero_le _, rfl, Lib.hid (fun x y hx => by omega), rfl⟩
  case round =>
    obtain ⟨k, q, hk, rfl, hs, rfl⟩ := hrel
    by_cases h1 : k < n
    · have h3 : (k : Int) < (n : Int) := by omega
      go_wp2_with fail
      go_loopw [11] (fun i wr => ∃ j r : Nat, j ≤ k ∧ i = .int .i64 j ∧ Hid (∀ y, y < j → f k y = false ∨ f y k = false) ∧ wr = w.drewN r)
        (fun i _ => k - (RowKit.intOf i).toNat)
      case atStart => exact ⟨0, q, Nat.zero_le _, rfl, Lib.hid (fun y hy => by omega), rfl⟩
      case round =>
        obtain ⟨j, r, hj, rfl, hz, rfl⟩ := hrel
        by_cases h4 : j < k
        · have h5 : (j : Int) < (k : Int) := by omega
          have h6 : (j : Int) < (n : Int) := by omega
          have h7 : j < n := by omega
          obtain ⟨a, b, d, rfl, c1, c2⟩ := H.out.at h1 h7
          obtain ⟨a', b', d', e, c3, c4⟩ := H.out.at h7 h1
          cases e
          unfold bB at c2 c4
          cases hf : f k j with
          | false =>
            rw [hf] at c2
            have HF := Lib.hid hf
            clear hf
            go_wp2_with fail
            refine ⟨⟨j + 1, r, by omega, by go_num, Lib.hid (fun y hy => ?_), rfl⟩, by simp [RowKit.intOf]; omega⟩
            by_cases hyj : y < j
            · exact hz.out y hyj
            · obtain rfl : y = j := by omega
              exact .inl HF.out
          | true =>
            rw [hf] at c2
            have HF := Lib.hid hf
            clear hf
            cases hg : f j k with
            | false =>
              rw [hg] at c4
              have HK := Lib.hid hg
              clear hg
              go_wp2_with fail
              refine ⟨⟨j + 1, r, by omega, by go_num, Lib.hid (fun y hy => ?_), rfl⟩, by simp [RowKit.intOf]; omega⟩
              by_cases hyj : y < j
              · exact hz.out y hyj
              · obtain rfl : y = j := by omega
                exact .inr HK.out
            | true =>
              rw [hg] at c4
              have HK := Lib.hid (circ_of h1 h7 (by omega) HF.out hg)
              clear hg
              go_wp2_with fail
              go_ret
              exact ⟨by rw [HK.out]; rfl, r, rfl⟩
        · have h5 : ¬ (j : Int) < (k : Int) := by omega
          obtain rfl : j = k := by omega
          go_wp2_with fail
          refine ⟨⟨j + 1, r, by omega, by go_num, Lib.hid (fun x y hx hy => ?_), rfl⟩, by simp [RowKit.intOf]; omega⟩
          by_cases hxj : x < j
          · exact hs.out x y hxj hy
          · obtain rfl : x = j := by omega
            exact hz.out y hy
    · have h3 : ¬ (k : Int) < (n : Int) := by omega
      obtain rfl : k = n := by omega
      have HK := Lib.hid (circ_not hs.out)
      go_wp2_with fail
      go_ret
      exact ⟨by rw [HK.out]; rfl, q, rfl⟩

theorem bounds_in (p1 p2 p3 : Addr) (ao : Option Addr) (c n a b x : Nat) (f : Nat → Nat → Bool) (w : World) (h : TabV w (.slice ao n c) n n (bB f)) (h1 : w.cell? p1 = some (.slice ao n c)) (h2 : w.cell? p2 = some (.int .i64 (a : Int))) (h3 : w.cell? p3 = some (.int .i64 (b : Int)))
    (ha : a < n) (hb : b < n) (hx : x < n) : Calls Tryd.prog 24 #[.int .i64 (x : Int), .pointer (some p1), .pointer (some p2), .pointer (some p3)] w fun e w' => e = .returned (.bool (f a x && f b x)) ∧ ∃ q, w' = w.drewN q := by
  obtain ⟨a1, b1, d1, rfl, c1, c2⟩ := h.at ha hx
  obtain ⟨a2, b2, d2, e, c3, c4⟩ := h.at hb hx
  cases e
  unfold bB at c2 c4
  clear h
  have y1 : (a : Int) < (n : Int) := by omega
  have y2 : (b : Int) < (n : Int) := by omega
  have y3 : (x : Int) < (n : Int) := by omega
  cases hf : f a x with
  | false =>
    rw [hf] at c2
    go_enter Tryd.func24, Tryd.ntmps24
    go_wp2_with fail
    go_ret
    exact ⟨by simp, 0, rfl⟩
  | true =>
    rw [hf] at c2
    go_enter Tryd.func24, Tryd.ntmps24
    go_wp2_with fail
    go_ret
    exact ⟨by simp, 0, rfl⟩
theorem all_in (x : Int) (w : World) : Calls Tryd.prog 19 #[.int .i64 x] w fun e w' => e = .returned (.bool true) ∧ ∃ q, w' = w.drewN q := by
  go_enter Tryd.func19, Tryd.ntmps19
  go_wp2_with fail
  go_ret
  exact ⟨rfl, 0, rfl⟩

set_option maxHeartbeats 4000000 in
theorem code_least_all (v : Value) (n : Nat) (f : Nat → Nat → Bool)  (w : World) (h : TabV w v n n (bB f)) (hn : n ≤ 1000) :
    Calls Tryd.prog 20 #[v, .func (.func 19) #[] #[]] w fun e w' => e = .returned (.int .i64 (lstI n f (fun _ => true))) ∧ ∃ q, w' = w.drewN q := by
  obtain ⟨p, hpp⟩ : ∃ p : Nat → Bool, p = (fun _ => true) := ⟨_, rfl⟩
  have HP : Hid (∀ q x : Nat, x < n → Calls Tryd.prog 19 #[.int .i64 (x : Int)] (w.drewN q) fun e w' => e = .returned (.bool (p x)) ∧ ∃ r, w' = w.drewN r) := Lib.hid (by
    intro q x hx
    subst hpp
    have hC : Calls Tryd.prog 19 #[.int .i64 (x : Int)] (w.drewN q) fun e w' => e = .returned (.bool ((fun _ => true) x)) ∧ ∃ r, w' = (w.drewN q).drewN r := by
      exact all_in _ _
    exact hC.mono fun e w' ⟨he, r, hr⟩ => ⟨he, q + r, by rw [hr, World.drewN_drewN]⟩)
  rw [← hpp]
  obtain ⟨ao, cp, rfl⟩ := h.shape
  have H := Lib.hid h
  clear h hpp 
  go_enter Tryd.func20, Tryd.ntmps20
  go_wp2_with fail
  go_step3
  go_wp2_with fail
  go_step3
  go_wp2_with fail
  go_loopw [9] (fun i wr => ∃ k q : Nat, k ≤ n ∧ i = .int .i64 k ∧ Hid (∀ j, j < k → p j = false ∨ ∃ x, x < n ∧ p x = true ∧ f j x = false) ∧ wr = w.drewN q)
    (fun i _ => n - (RowKit.intOf i).toNat)
  case atStart => exact ⟨0, 0, Nat.zero_le _, rfl, Lib.hid (fun j hj => by omega), rfl⟩
  case round =>
    obtain ⟨k, q, hk, rfl, hs, rfl⟩ := hrel
    by_cases h1 : k < n
    · have h3 : (k : Int) < (n : Int) := by omega
      have C1 := Lib.hid (HP.out q k h1)
      cases hpk : p k with
      | false =>
        rw [hpk] at C1
        have HK := Lib.hid hpk
        clear hpk
        go_wp2_with (go_at_call 19; refine C1.out.mono ?_; rintro e w' ⟨rfl, r, rfl⟩)
        refine ⟨⟨k + 1, r, by omega, by go_num, Lib.hid (fun x hx => ?_), rfl⟩, by simp [RowKit.intOf]; omega⟩
        by_cases hxk : x < k
        · exact hs.out x hxk
        · obtain rfl : x = k := by omega
          exact .inl HK.out
      | true =>
        rw [hpk] at C1
        have HK := Lib.hid hpk
        clear hpk
        go_wp2_with (go_at_call 19; refine C1.out.mono ?_; rintro e w' ⟨rfl, r, rfl⟩)
        clear C1
        go_loopw [18] (fun i wr => ∃ j t : Nat, j ≤ n ∧ i = .int .i64 j ∧ Hid (∀ y, y < j → p y = true → f k y = true) ∧ wr = w.drewN t)
          (fun i _ => n - (RowKit.intOf i).toNat)
        case atStart => exact ⟨0, r, Nat.zero_le _, rfl, Lib.hid (fun y hy => by omega), rfl⟩
        case round =>
          obtain ⟨j, t, hj, rfl, hz, rfl⟩ := hrel
          by_cases h4 : j < n
          · have h5 : (j : Int) < (n : Int) := by omega
            have C1 := Lib.hid (HP.out t j h4)
            cases hpj : p j with
            | false =>
              rw [hpj] at C1
              have HJ := Lib.hid hpj
              clear hpj
              go_wp2_with (go_at_call 19; refine C1.out.mono ?_; rintro e w' ⟨rfl, r2, rfl⟩)
              refine ⟨⟨j + 1, r2, by omega, by go_num, Lib.hid (fun y hy hpy => ?_), rfl⟩, by simp [RowKit.intOf]; omega⟩
              by_cases hyj : y < j
              · exact hz.out y hyj hpy
              · obtain rfl : y = j := by omega
                rw [HJ.out] at hpy
                cases hpy
            | true =>
              rw [hpj] at C1
              have HJ := Lib.hid hpj
              clear hpj
              obtain ⟨a, b, d, rfl, c1, c2⟩ := H.out.at h1 h4
              unfold bB at c2
              cases hf : f k j with
              | true =>
                rw [hf] at c2
                have HF := Lib.hid hf
                clear hf
                go_wp2_with (go_at_call 19; refine C1.out.mono ?_; rintro e w' ⟨rfl, r2, rfl⟩)
                refine ⟨⟨j + 1, r2, by omega, by go_num, Lib.hid (fun y hy hpy => ?_), rfl⟩, by simp [RowKit.intOf]; omega⟩
                by_cases hyj : y < j
                · exact hz.out y hyj hpy
                · obtain rfl : y = j := by omega
                  exact HF.out
              | false =>
                rw [hf] at c2
                have HF := Lib.hid hf
                clear hf
                go_wp2_with (go_at_call 19; refine C1.out.mono ?_; rintro e w' ⟨rfl, r2, rfl⟩)
                refine ⟨⟨k + 1, r2, by omega, by go_num, Lib.hid (fun x hx => ?_), rfl⟩, by simp [RowKit.intOf]; omega⟩
                by_cases hxk : x < k
                · exact hs.out x hxk
                · obtain rfl : x = k := by omega
                  exact .inr ⟨j, h4, HJ.out, HF.out⟩
          · have h5 : ¬ (j : Int) < (n : Int) := by omega
            obtain rfl : j = n := by omega
            have HE := Lib.hid (lstI_some (leastP_first h1 HK.out hz.out hs.out))
            go_wp2_with fail
            try rw [Exit.noGoto_ret]
            go_ret
            exact ⟨by rw [HE.out]; rfl, t, rfl⟩
    · have h3 : ¬ (k : Int) < (n : Int) := by omega
      obtain rfl : k = n := by omega
      have HE := Lib.hid (lstI_none (leastP_nothing hs.out))
      go_wp2_with fail
      try rw [Exit.noGoto_ret]
      go_ret
      exact ⟨by rw [HE.out]; rfl, q, rfl⟩

set_option maxHeartbeats 4000000 in
theorem code_least_two (v : Value) (n : Nat) (f : Nat → Nat → Bool) (p1 p2 p3 : Addr) (a b : Nat) (w : World) (h : TabV w v n n (bB f)) (hn : n ≤ 1000) (h1 : w.cell? p1 = some v) (h2 : w.cell? p2 = some (.int .i64 (a : Int))) (h3 : w.cell? p3 = some (.int .i64 (b : Int))) (ha : a < n) (hb : b < n) :
    Calls Tryd.prog 20 #[v, .func (.func 24) #[] #[.pointer (some p1), .pointer (some p2), .pointer (some p3)]] w fun e w' => e = .returned (.int .i64 (lstI n f (fun x => f a x && f b x))) ∧ ∃ q, w' = w.drewN q := by
  obtain ⟨p, hpp⟩ : ∃ p : Nat → Bool, p = (fun x => f a x && f b x) := ⟨_, rfl⟩
  have HP : Hid (∀ q x : Nat, x < n → Calls Tryd.prog 24 #[.int .i64 (x : Int), .pointer (some p1), .pointer (some p2), .pointer (some p3)] (w.drewN q) fun e w' => e = .returned (.bool (p x)) ∧ ∃ r, w' = w.drewN r) := Lib.hid (by
    intro q x hx
    subst hpp
    have hC : Calls Tryd.prog 24 #[.int .i64 (x : Int), .pointer (some p1), .pointer (some p2), .pointer (some p3)] (w.drewN q) fun e w' => e = .returned (.bool ((fun x => f a x && f b x) x)) ∧ ∃ r, w' = (w.drewN q).drewN r := by
      obtain ⟨ao, cp, rfl⟩ := h.shape; exact bounds_in p1 p2 p3 ao cp n a b x f _ (h.later (below_drewN (Grow.refl w) q)) h1 h2 h3 ha hb hx
    exact hC.mono fun e w' ⟨he, r, hr⟩ => ⟨he, q + r, by rw [hr, World.drewN_drewN]⟩)
  rw [← hpp]
  obtain ⟨ao, cp, rfl⟩ := h.shape
  have H := Lib.hid h
  clear h hpp h1 h2 h3 ha hb
  go_enter Tryd.func20, Tryd.ntmps20
  go_wp2_with fail
  go_step3
  go_wp2_with fail
  go_step3
  go_wp2_with fail
  go_loopw [9] (fun i wr => ∃ k q : Nat, k ≤ n ∧ i = .int .i64 k ∧ Hid (∀ j, j < k → p j = false ∨ ∃ x, x < n ∧ p x = true ∧ f j x = false) ∧ wr = w.drewN q)
    (fun i _ => n - (RowKit.intOf i).toNat)
  case atStart => exact ⟨0, 0, Nat.zero_le _, rfl, Lib.hid (fun j hj => by omega), rfl⟩
  case round =>
    obtain ⟨k, q, hk, rfl, hs, rfl⟩ := hrel
    by_cases h1 : k < n
    · have h3 : (k : Int) < (n : Int) := by omega
      have C1 := Lib.hid (HP.out q k h1)
      cases hpk : p k with
      | false =>
        rw [hpk] at C1
        have HK := Lib.hid hpk
        clear hpk
        go_wp2_with (go_at_call 24; refine C1.out.mono ?_; rintro e w' ⟨rfl, r, rfl⟩)
        refine ⟨⟨k + 1, r, by omega, by go_num, Lib.hid (fun x hx => ?_), rfl⟩, by simp [RowKit.intOf]; omega⟩
        by_cases hxk : x < k
        · exact hs.out x hxk
        · obtain rfl : x = k := by omega
          exact .inl HK.out
      | true =>
        rw [hpk] at C1
        have HK := Lib.hid hpk
        clear hpk
        go_wp2_with (go_at_call 24; refine C1.out.mono ?_; rintro e w' ⟨rfl, r, rfl⟩)
        clear C1
        go_loopw [18] (fun i wr => ∃ j t : Nat, j ≤ n ∧ i = .int .i64 j ∧ Hid (∀ y, y < j → p y = true → f k y = true) ∧ wr = w.drewN t)
          (fun i _ => n - (RowKit.intOf i).toNat)
        case atStart => exact ⟨0, r, Nat.zero_le _, rfl, Lib.hid (fun y hy => by omega), rfl⟩
        case round =>
          obtain ⟨j, t, hj, rfl, hz, rfl⟩ := hrel
          by_cases h4 : j < n
          · have h5 : (j : Int) < (n : Int) := by omega
            have C1 := Lib.hid (HP.out t j h4)
            cases hpj : p j with
            | false =>
              rw [hpj] at C1
              have HJ := Lib.hid hpj
              clear hpj
              go_wp2_with (go_at_call 24; refine C1.out.mono ?_; rintro e w' ⟨rfl, r2, rfl⟩)
              refine ⟨⟨j + 1, r2, by omega, by go_num, Lib.hid (fun y hy hpy => ?_), rfl⟩, by simp [RowKit.intOf]; omega⟩
              by_cases hyj : y < j
              · exact hz.out y hyj hpy
              · obtain rfl : y = j := by omega
                rw [HJ.out] at hpy
                cases hpy
            | true =>
              rw [hpj] at C1
              have HJ := Lib.hid hpj
              clear hpj
              obtain ⟨a, b, d, rfl, c1, c2⟩ := H.out.at h1 h4
              unfold bB at c2
              cases hf : f k j with
              | true =>
                rw [hf] at c2
                have HF := Lib.hid hf
                clear hf
                go_wp2_with (go_at_call 24; refine C1.out.mono ?_; rintro e w' ⟨rfl, r2, rfl⟩)
                refine ⟨⟨j + 1, r2, by omega, by go_num, Lib.hid (fun y hy hpy => ?_), rfl⟩, by simp [RowKit.intOf]; omega⟩
                by_cases hyj : y < j
                · exact hz.out y hyj hpy
                · obtain rfl : y = j := by omega
                  exact HF.out
              | false =>
                rw [hf] at c2
                have HF := Lib.hid hf
                clear hf
                go_wp2_with (go_at_call 24; refine C1.out.mono ?_; rintro e w' ⟨rfl, r2, rfl⟩)
                refine ⟨⟨k + 1, r2, by omega, by go_num, Lib.hid (fun x hx => ?_), rfl⟩, by simp [RowKit.intOf]; omega⟩
                by_cases hxk : x < k
                · exact hs.out x hxk
                · obtain rfl : x = k := by omega
                  exact .inr ⟨j, h4, HJ.out, HF.out⟩
          · have h5 : ¬ (j : Int) < (n : Int) := by omega
            obtain rfl : j = n := by omega
            have HE := Lib.hid (lstI_some (leastP_first h1 HK.out hz.out hs.out))
            go_wp2_with fail
            try rw [Exit.noGoto_ret]
            go_ret
            exact ⟨by rw [HE.out]; rfl, t, rfl⟩
    · have h3 : ¬ (k : Int) < (n : Int) := by omega
      obtain rfl : k = n := by omega
      have HE := Lib.hid (lstI_none (leastP_nothing hs.out))
      go_wp2_with fail
      try rw [Exit.noGoto_ret]
      go_ret
      exact ⟨by rw [HE.out]; rfl, q, rfl⟩

end Go.Proofs.YtlgfijjkbomejaaDoor
