/- The code's Scan. Numbers and types by name. -/
import Derived.Test.YthacjeeafnblmaaGreatDoorWrf
import Derived.Test.YthacjeeafnblmaaGreatDoorWft
import Derived.Test.YthacjeeafnblmaaGreatDoorCen
import Derived.Test.YthacjeeafnblmaaGreatDoorBtc
import Derived.Test.YthacjeeafnblmaaGreatDoorCon
import Derived.WalkMore
/- The code's log in memory. Numbers and types by name. -/
namespace Go.Proofs.YthacjeeafnblmaaGreatDoor
open Go.RowKit Go.Lib

/-- The cells of the code's log q of the disk b. -/
def CO (w : World) (b q n : Nat) (s : Bool) : Prop := w.heap[q]? = some (wob 80 (theDisk b) n s)
/-- The code's log q of its disk b; whether its file is as long as it says is not said. -/
def CV (w : World) (base b q : Nat) (M : MD) (n : Nat) (s : Bool) (F : List Nat) : Prop :=
  CD w base b M F ∧ q ∉ F ∧ CO w b q n s
def CVNext (w w' : World) (base b q : Nat) (M' : MD) (n' : Nat) (s' : Bool) (F : List Nat) : Prop :=
  ∃ F', CV w' base b q M' n' s' F' ∧ (∀ k ∈ F', k ∈ F ∨ w.heap.size ≤ k) ∧ Turn (q :: F) w w'

theorem CV.lt {w : World} {base b q : Nat} {M : MD} {n : Nat} {s : Bool} {F : List Nat} (h : CV w base b q M n s F) : q < w.heap.size := lt_of h.2.2
theorem CV.keep {w w' : World} {base b q : Nat} {M : MD} {n : Nat} {s : Bool} {F H : List Nat} (h : CV w base b q M n s F) (t : Turn H w w') (hq : q ∉ H) (hF : ∀ k ∈ F, k ∉ H) : CV w' base b q M n s F :=
  ⟨h.1.keep t hF, h.2.1, t.heap h.2.2 hq⟩
theorem CV.new {w w' : World} {base b q : Nat} {M : MD} {n : Nat} {s : Bool} {F : List Nat} (h : CV w base b q M n s F) (t : Turn [] w w') : CV w' base b q M n s F := h.keep t (by simp) (by simp)
theorem CV.next {w w' : World} {base b q : Nat} {M : MD} {n : Nat} {s : Bool} {F : List Nat} (h : CV w' base b q M n s F) (t : Turn (q :: F) w w') : CVNext w w' base b q M n s F :=
  ⟨F, h, fun _ hk => .inl hk, t⟩
/-- Behind a call of the disk. -/
theorem CV.disk {w w' : World} {base b q : Nat} {M M' : MD} {n : Nat} {s : Bool} {F : List Nat} (h : CV w base b q M n s F) (hn : Next w w' base b M' F) : CVNext w w' base b q M' n s F := by
  obtain ⟨F', h1, h2, t⟩ := hn
  have hq := h.lt
  refine ⟨F', ⟨h1, fun hm => ?_, t.heap h.2.2 h.2.1⟩, h2, t.mono fun x hx => List.mem_cons_of_mem _ hx⟩
  rcases h2 q hm with h' | h'
  · exact h.2.1 h'
  · omega
theorem CVNext.then' {w w1 w' : World} {base b q : Nat} {M1 M' : MD} {n1 n' : Nat} {s1 s' : Bool} {F F1 : List Nat} (h1 : CV w1 base b q M1 n1 s1 F1) (h2 : ∀ k ∈ F1, k ∈ F ∨ w.heap.size ≤ k) (h4 : Turn (q :: F) w w1) (k : CVNext w1 w' base b q M' n' s' F1) : CVNext w w' base b q M' n' s' F := by
  obtain ⟨F', k1, k2, k4⟩ := k
  have hs := h4.size
  refine ⟨F', k1, fun x hx => ?_, h4.trans' k4 fun x hx => ?_⟩
  · rcases k2 x hx with h' | h'
    · exact h2 x h'
    · exact .inr (by omega)
  · rcases List.mem_cons.1 hx with rfl | hx
    · exact .inl (by simp)
    · rcases h2 x hx with h' | h'
      · exact .inl (List.mem_cons_of_mem _ h')
      · exact .inr h'
theorem CVNext.then {w w1 w' : World} {base b q : Nat} {M1 M' : MD} {n1 n' : Nat} {s1 s' : Bool} {F : List Nat} (h : CVNext w w1 base b q M1 n1 s1 F) (k : ∀ F1, CV w1 base b q M1 n1 s1 F1 → CVNext w1 w' base b q M' n' s' F1) : CVNext w w' base b q M' n' s' F := by
  obtain ⟨F1, h1, h2, h3⟩ := h
  exact CVNext.then' h1 h2 h3 (k F1 h1)
theorem CVNext.after {w w1 w' : World} {base b q : Nat} {M' : MD} {n' : Nat} {s' : Bool} {F : List Nat} (t : Turn [] w w1) (h : CVNext w1 w' base b q M' n' s' F) : CVNext w w' base b q M' n' s' F := by
  obtain ⟨F', k1, k2, k4⟩ := h
  have hs := t.size
  exact ⟨F', k1, fun x hx => (k2 x hx).imp id (fun h => by omega), t.nil_any.trans k4⟩
theorem CV.set {w : World} {base b q : Nat} {M : MD} {n n' : Nat} {s s' : Bool} {F : List Nat} (h : CV w base b q M n s F) (j : Nat) (v : Value) (ho : (w.setCell ⟨q, j, none⟩ v).heap[q]? = some (wob 80 (theDisk b) n' s')) : CVNext w (w.setCell ⟨q, j, none⟩ v) base b q M n' s' F := by
  have t : Turn [q] w (w.setCell ⟨q, j, none⟩ v) := (Turn.refl [q] w).set (.inl (by simp)) j v
  refine CV.next ⟨h.1.keep t (fun k hk => ?_), h.2.1, ho⟩ (t.mono fun x hx => by rw [List.mem_singleton.1 hx]; simp)
  intro e; rw [List.mem_singleton.1 e] at hk; exact h.2.1 hk
theorem CV.set_n {w : World} {base b q : Nat} {M : MD} {n : Nat} {s : Bool} {F : List Nat} (h : CV w base b q M n s F) (m : Nat) : CVNext w (w.setCell ⟨q, 1, none⟩ (.int .i64 (m : Int))) base b q M m s F := h.set 1 _ (wob_n h.2.2 m)
theorem CV.set_s {w : World} {base b q : Nat} {M : MD} {n : Nat} {s : Bool} {F : List Nat} (h : CV w base b q M n s F) (c : Bool) : CVNext w (w.setCell ⟨q, 2, none⟩ (.bool c)) base b q M n c F := h.set 2 _ (wob_s h.2.2 c)

/-- The code's log q of its disk b. -/
def CW (w : World) (base b q : Nat) (M : MD) (n : Nat) (s : Bool) (F : List Nat) : Prop :=
  CD w base b M F ∧ (q ∉ F ∧ Fits M n s) ∧ CO w b q n s
def CWNext (w w' : World) (base b q : Nat) (M' : MD) (n' : Nat) (s' : Bool) (F : List Nat) : Prop :=
  ∃ F', CW w' base b q M' n' s' F' ∧ (∀ k ∈ F', k ∈ F ∨ w.heap.size ≤ k) ∧ Turn (q :: F) w w'
theorem CW.v {w : World} {base b q : Nat} {M : MD} {n : Nat} {s : Bool} {F : List Nat} (h : CW w base b q M n s F) : CV w base b q M n s F := ⟨h.1, h.2.1.1, h.2.2⟩
theorem CW.fits {w : World} {base b q : Nat} {M : MD} {n : Nat} {s : Bool} {F : List Nat} (h : CW w base b q M n s F) : Fits M n s := h.2.1.2
theorem CV.w {w : World} {base b q : Nat} {M : MD} {n : Nat} {s : Bool} {F : List Nat} (h : CV w base b q M n s F) (hf : Fits M n s) : CW w base b q M n s F := ⟨h.1, ⟨h.2.1, hf⟩, h.2.2⟩
theorem CVNext.w {w w' : World} {base b q : Nat} {M : MD} {n : Nat} {s : Bool} {F : List Nat} (h : CVNext w w' base b q M n s F) (hf : Fits M n s) : CWNext w w' base b q M n s F := by
  obtain ⟨F', h1, h2, h3⟩ := h
  exact ⟨F', h1.w hf, h2, h3⟩
theorem CW.lt {w : World} {base b q : Nat} {M : MD} {n : Nat} {s : Bool} {F : List Nat} (h : CW w base b q M n s F) : q < w.heap.size := h.v.lt
theorem CW.keep {w w' : World} {base b q : Nat} {M : MD} {n : Nat} {s : Bool} {F H : List Nat} (h : CW w base b q M n s F) (t : Turn H w w') (hq : q ∉ H) (hF : ∀ k ∈ F, k ∉ H) : CW w' base b q M n s F := (h.v.keep t hq hF).w h.fits
theorem CW.new {w w' : World} {base b q : Nat} {M : MD} {n : Nat} {s : Bool} {F : List Nat} (h : CW w base b q M n s F) (t : Turn [] w w') : CW w' base b q M n s F := h.keep t (by simp) (by simp)

/-- What the code's Open leaves. -/
def COpened (w : World) (base b : Nat) (F : List Nat) (O : Opened) (e : Ending) (w' : World) : Prop :=
  (O.e ≠ 0 ∧ e = .returned (.tuple #[.pointer none, .slice none 0 0, .int .i64 O.e]) ∧ Next w w' base b O.M F) ∨
  (O.e = 0 ∧ ∃ q ao jn c lo hi F', e = .returned (.tuple #[.pointer (some ⟨q, 0, none⟩), .slice ao jn c, .int .i64 0]) ∧ CW w' base b q O.M O.n false F' ∧ (∀ k ∈ F', k ∈ F ∨ w.heap.size ≤ k) ∧ Turn F w w' ∧
    w.heap.size ≤ lo ∧ hi ≤ w'.heap.size ∧ w.heap.size ≤ q ∧ (q < lo ∨ hi ≤ q) ∧ ObsB w' lo hi (.slice ao jn c) jn O.l ∧ ∀ k ∈ F', k < lo ∨ hi ≤ k)

end Go.Proofs.YthacjeeafnblmaaGreatDoor

namespace Go.Proofs.YthacjeeafnblmaaGreatDoor
open Go.RowKit Go.Lib

set_option maxHeartbeats 4000000 in
theorem scan_any (v : Value) (m : Nat) (b : List UInt8) (w : World) (hr : Reads w v (bv b)) (hm : m = b.length) (hl : Hid (m ≤ 1000000000)) :
    Calls Tryz.prog 64 #[v] w (ScanDone b w) := by
  obtain ⟨ao, c, rfl⟩ : ∃ ao c, v = .slice ao m c := by obtain ⟨ao, c, rfl, _⟩ := hr; exact ⟨ao, c, by rw [bv_length, hm]⟩
  have HR := Lib.hid hr
  have HM := Lib.hid hm
  have HL : Hid (m ≤ maxLen) := Lib.hid (by have := hl.out; unfold maxLen; omega)
  clear hr hm
  go_enter Tryz.func64, Tryz.ntmps64
  go_wp2_with fail
  go_step3
  go_wp2_with fail
  go_step3
  go_wp2_with fail
  go_loopw [2, 3] (fun lv gv wr => ∃ k : Nat, gv = .int .i64 k ∧ Hid (ScanAt b w wr lv k m))
    (fun _ gv _ => m + 8 - (intOf gv).toNat)
  case atStart => exact ⟨0, rfl, Lib.hid ⟨none, 0, 0, [], rfl, Ows.nil _ _, Below.refl _ _, Nat.zero_le _, by omega, fun l n h => by simpa using h⟩⟩
  case round =>
    obtain ⟨k, rfl, hrel⟩ := hrel
    have hkm : k ≤ m := by obtain ⟨_, _, _, _, _, _, _, h, _⟩ := hrel.out; exact h
    have hbel : Below w.heap.size w wr := by obtain ⟨_, _, _, _, _, _, h, _⟩ := hrel.out; exact h
    have hrr := HR.out.later hbel
    have hl' := hl.out
    obtain ⟨k9, hk9⟩ : ∃ k9, k9 = k + 8 := ⟨_, rfl⟩
    have e8 : (k : Int) + 8 = (k9 : Int) := by omega
    have HK := Lib.hid hk9
    clear hk9
    by_cases h8 : k + 8 ≤ m
    · obtain ⟨q, hq⟩ : ∃ q : Nat, numOf ((b.drop k).take 4) = q := ⟨_, (Int.toNat_of_nonneg (numOf_bound _).1).symm⟩
      obtain ⟨s, hs⟩ : ∃ s : Nat, numOf ((b.drop (k + 4)).take 4) = s := ⟨_, (Int.toNat_of_nonneg (numOf_bound _).1).symm⟩
      have hone := one_drop (b := b) (k := k) (by have := HM.out; omega) q s hq hs
      rw [← HM.out] at hone
      have G1 := get_in _ m b k wr hrr HM.out HL (by omega)
      rw [hq] at G1
      have G2 := get_in _ m b (k + 4) wr hrr HM.out HL (by omega)
      rw [hs, show (((k + 4 : Nat)) : Int) = (k : Int) + 4 by omega] at G2
      have HONE := Lib.hid hone
      clear hq hs hone
      by_cases c1 : 1048576 < q
      · have c1' : (1048576 : Int) < (q : Int) := by omega
        have HS := Lib.hid (scan_stops hrel.out HM.out (by rw [HONE.out, if_neg (by omega)]))
        clear hrel
        go_wp2_with fail
        refine G1.mono ?_
        rintro e w2 ⟨rfl, hw2⟩
        subst hw2
        clear G1
        go_wp2_with fail
        refine G2.mono ?_
        rintro e w3 ⟨rfl, hw3⟩
        subst hw3
        clear G2
        go_wp2_with fail
        (try rw [Exit.noGoto_ret])
        go_ret2
        exact HS.out _ (Below.refl _ _)
      · have c1' : ¬ (1048576 : Int) < (q : Int) := by omega
        by_cases c2 : m - (k + 8) < q
        · have c2' : (m : Int) - (k9 : Int) < (q : Int) := by omega
          have HS := Lib.hid (scan_stops hrel.out HM.out (by rw [HONE.out, if_neg (by omega)]))
          clear hrel
          go_wp2_with fail
          refine G1.mono ?_
          rintro e w2 ⟨rfl, hw2⟩
          subst hw2
          clear G1
          go_wp2_with fail
          refine G2.mono ?_
          rintro e w3 ⟨rfl, hw3⟩
          subst hw3
          clear G2
          go_wp2_with fail
          (try rw [Exit.noGoto_ret])
          go_ret2
          exact HS.out _ (Below.refl _ _)
        · have c2' : ¬ (m : Int) - (k9 : Int) < (q : Int) := by omega
          obtain ⟨a, rfl⟩ : ∃ a, ao = some a := by
            obtain ⟨ao', c', e, _, hn0, _⟩ := HR.out
            cases ao with
            | some a => exact ⟨a, rfl⟩
            | none =>
              simp only [Value.slice.injEq] at e
              have := (hn0 e.1.symm).1
              have : b = [] := by simpa [bv] using this
              have hm := HM.out
              subst this; simp at hm; omega
          have hmc : m ≤ c := by
            obtain ⟨_, _, e, h0, _⟩ := HR.out
            simp only [Value.slice.injEq, bv_length] at e h0
            have := HM.out
            omega
          have hk9 := HK.out
          rw [← hk9] at HONE
          obtain ⟨bz, hbz, jz⟩ : ∃ bz, (if c = k9 then some a else some (a.add k9)) = some bz ∧ (bz = a.add k9 ∨ b.length = k9) := by
            by_cases h : c = k9
            · exact ⟨a, if_pos h, .inr (by have := HM.out; omega)⟩
            · exact ⟨a.add k9, if_neg h, .inl rfl⟩
          have HRD : Hid (Reads wr (.slice (some bz) q (c - k9)) (bv ((b.drop k9).take q))) := Lib.hid ((hrr.drop k9 (by omega) bz jz).prefix q (by omega))
          have x1 : (k9 : Int) + (q : Int) ≤ (c : Int) := by omega
          have x2 : k9 ≤ k9 + q := by omega
          have x3 : k9 + q ≤ c := by omega
          have u9 : wrap64 ((k9 : Int) + (q : Int)) = ((k9 + q : Nat) : Int) := by rw [wrap64_id _ (by omega)]; omega
          have HX := Lib.hid (And.intro hk9 (And.intro h8 (And.intro c2 hmc)))
          have HU9 := Lib.hid u9
          have hlen : Hid (q = ((b.drop k9).take q).length) := Lib.hid (by have := HX.out; have := HM.out; rw [List.length_take, List.length_drop]; omega)
          have C5 := sum_any _ q _ wr HRD.out hlen.out (Lib.hid (by omega))
          have HC5 := Lib.hid C5
          clear u9 hk9 jz C5
          by_cases hsum : sumOf 0 ((b.drop k9).take q) = (s : Int)
          · have hsum2 : (sumOf 0 ((b.drop k9).take q) != (s : Int)) = false := by simpa using hsum
            obtain ⟨aL, j, cL, ps, rfl, ho, _, _, hjk, hscan⟩ := hrel.out
            have HO := Lib.hid (And.intro ho (And.intro hjk hscan))
            have HONE2 : Hid (one? (b.drop k) = some ((b.drop k9).take q, b.drop (k9 + q))) := Lib.hid (by rw [HONE.out, if_pos ⟨by omega, by omega, hsum⟩])
            have FL : Hid (j + 1 ≤ 1000000000) := Lib.hid (by omega)
            have F1 : Hid (q ≤ maxLen) := Lib.hid (by unfold maxLen; omega)
            have HBEL := Lib.hid hbel
            have HC6 := Lib.hid (clone_any _ q _ wr HRD.out hlen.out (Lib.hid (by omega)))
            clear hrel ho hjk hscan hbel
            go_wp2_with fail
            refine G1.mono ?_
            rintro e w2 ⟨rfl, hw2⟩
            subst hw2
            clear G1
            go_wp2_with fail
            refine G2.mono ?_
            rintro e w3 ⟨rfl, hw3⟩
            subst hw3
            clear G2
            go_wp2_with fail
            refine HC5.out.mono ?_
            rintro e w4 ⟨rfl, hw4⟩
            subst hw4
            clear HC5
            go_wp2_with fail
            refine HC6.out.mono ?_
            rintro e w5 ⟨ao5, c5, rfl, hown5, hb5⟩
            have O5 := HO.out.1.later (hb5.mono (Nat.le_refl _))
            have B5 : Below w.heap.size w w5 := HBEL.out.trans (hb5.mono HBEL.out.size)
            have HP := Lib.hid (And.intro O5 (And.intro B5 (And.intro hown5 hb5)))
            clear O5 B5 HC6 hown5 hb5
            have hap : Hid (∀ a, ao5 = some a → some a.block ≠ (Value.slice aL j cL).ownBlock ∧ a.block < (w5.alloc (.cells #[.slice ao5 q c5] 24)).heap.size) := Lib.hid fun a ha => by
              subst ha
              obtain ⟨O5, B5, hown5, hb5⟩ := HP.out
              have h1 := hown5.2.lt a.block rfl
              refine ⟨fun e => ?_, by simp; omega⟩
              obtain ⟨_, vs, h2, _⟩ := HO.out.1
              have := (h2.lt a.block e.symm).2
              omega
            go_wp2_with (at_builtin; refine wpList_append_row rfl (.tmp 48) (.tmp 54) rfl w.heap.size (.slice aL j cL) j ps rfl (HP.out.1.later ((Below.refl _ w5).alloc (Nat.le_refl _) _)) ⟨w5.heap.size, 0, none⟩ _ q ao5 c5 HP.out.2.2.1.1 rfl (by rw [World.cell?_alloc_mark]; rfl) (HP.out.2.2.1.alloc _).reads hap.out F1 (j + 1) rfl FL (Nat.le_trans HP.out.2.1.size (by simp)) ?_; intro ao6 c6 w6 hown6 hb6)
            have hx := HX.out
            have hb3 : Below w.heap.size w w6 := HP.out.2.1.trans (((Below.refl _ w5).alloc HP.out.2.1.size _).trans hb6)
            have hjk := HO.out.2.1
            refine ⟨⟨k9 + q, by simp, Lib.hid ⟨ao6, j + 1, c6, _, rfl, hown6, hb3, by omega, by omega, fun l n h => ?_⟩⟩, by simp only [intOf]; omega⟩
            have h2 := HO.out.2.2 _ _ (.more HONE2.out h)
            rw [← hlen.out, show k + (8 + q + n) = k9 + q + n by omega] at h2
            simpa using h2
          · have hsum2 : (sumOf 0 ((b.drop k9).take q) != (s : Int)) = true := by simpa using hsum
            have HS := Lib.hid (scan_stops hrel.out HM.out (by rw [HONE.out, if_neg (fun h => hsum h.2.2)]))
            clear hrel
            go_wp2_with fail
            refine G1.mono ?_
            rintro e w2 ⟨rfl, hw2⟩
            subst hw2
            clear G1
            go_wp2_with fail
            refine G2.mono ?_
            rintro e w3 ⟨rfl, hw3⟩
            subst hw3
            clear G2
            go_wp2_with fail
            refine HC5.out.mono ?_
            rintro e w4 ⟨rfl, hw4⟩
            subst hw4
            clear HC5
            go_wp2_with fail
            (try rw [Exit.noGoto_ret])
            go_ret2
            exact HS.out _ (Below.refl _ _)
    · have h0 := one_short (b := b) (k := k) (by have := HM.out; omega)
      have HS := Lib.hid (scan_stops hrel.out HM.out h0)
      have C1 : ∃ x ok, Calls Tryz.prog 84 #[.slice ao m c, .int .i64 (k : Int)] wr fun e w' => e = .returned (.tuple #[.int .i64 x, .bool ok]) ∧ w' = wr := by
        by_cases h4 : k + 4 ≤ m
        · exact ⟨_, _, get_in _ m b k wr hrr HM.out HL h4⟩
        · exact ⟨_, _, get_out _ m b (k : Int) wr hrr HM.out HL (by omega)⟩
      obtain ⟨x, ok, C1⟩ := C1
      have G2 := get_out _ m b ((k : Int) + 4) wr hrr HM.out HL (by omega)
      clear h0 hrel
      go_wp2_with fail
      refine C1.mono ?_
      rintro e w2 ⟨rfl, hw2⟩
      subst hw2
      clear C1
      go_wp2_with fail
      refine G2.mono ?_
      rintro e w3 ⟨rfl, hw3⟩
      subst hw3
      clear G2
      go_wp2_with fail
      (try rw [Exit.noGoto_ret])
      go_ret2
      exact HS.out _ (Below.refl _ _)

end Go.Proofs.YthacjeeafnblmaaGreatDoor
