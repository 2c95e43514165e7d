/- Decode of the code. Numbers and types by name. -/
import Derived.Test.YtlgfijjkbomejaaGreatDoorTxt
import Derived.Test.YtlgfijjkbomejaaGreatDoorCen
namespace Go.Proofs.YtlgfijjkbomejaaGreatDoor
open Go.RowKit Go.Lib

/-- The cells that the closures hold: the bytes, the place, the closure itself. -/
structure Held (w : World) (pb pa : Nat) (v : Value) (k : Nat) : Prop where
  b : w.cell? ⟨pb, 0, none⟩ = some v
  a : w.cell? ⟨pa, 0, none⟩ = some (.int .i64 k)
  fz : w.frozen? ⟨pa, 0, none⟩ = false

theorem number_ok (pb pa : Nat) (v : Value) (m k : Nat) (l : List UInt8) (w : World) (hh : Held w pb pa v k) (hr : Reads w v (bv l)) (hm : m = l.length) (hl : Hid (m ≤ maxLen)) (hk : k + 4 ≤ m) :
    Calls Tryz.prog 83 #[.pointer (some ⟨pb, 0, none⟩), .pointer (some ⟨pa, 0, none⟩)] w fun e w' =>
      e = .returned (.tuple #[.int .i64 (numOf ((l.drop k).take 4)), .bool true]) ∧ w' = w.setCell ⟨pa, 0, none⟩ (.int .i64 ((k + 4 : Nat) : Int)) := by
  have c1 := hh.b
  have c2 := hh.a
  have c3 := hh.fz
  have hl' : m ≤ 9223372036854775807 := by have := hl.out; unfold maxLen at this; omega
  have G := get_in v m l k w hr hm (Lib.hid (by unfold maxLen; omega)) hk
  have n4 : wrap64 ((k : Int) + 4) = ((k + 4 : Nat) : Int) := by rw [wrap64_id _ (by omega)]; omega
  clear hr hh hm
  go_enter Tryz.func83, Tryz.ntmps83
  go_wp2_with (go_at_call 84; refine G.mono ?_; rintro e w' ⟨rfl, rfl⟩)
  go_ret2
  exact ⟨rfl, by simp⟩

theorem number_no (pb pa : Nat) (v : Value) (m k : Nat) (l : List UInt8) (w : World) (hh : Held w pb pa v k) (hr : Reads w v (bv l)) (hm : m = l.length) (hl : Hid (m ≤ maxLen)) (hk : ¬ k + 4 ≤ m) :
    Calls Tryz.prog 83 #[.pointer (some ⟨pb, 0, none⟩), .pointer (some ⟨pa, 0, none⟩)] w fun e w' =>
      e = .returned (.tuple #[.int .i64 0, .bool false]) ∧ w' = w := by
  have c1 := hh.b
  have c2 := hh.a
  have hl' : m ≤ 9223372036854775807 := by have := hl.out; unfold maxLen at this; omega
  have G := get_out v m l k w hr hm (Lib.hid (by unfold maxLen; omega)) (by omega)
  clear hr hh hm
  go_enter Tryz.func83, Tryz.ntmps83
  go_wp2_with (go_at_call 84; refine G.mono ?_; rintro e w' ⟨rfl, rfl⟩)
  go_ret2
  exact ⟨rfl, rfl⟩

theorem Held.set {w : World} {pb pa : Nat} {v : Value} {k : Nat} (h : Held w pb pa v k) (hne : pb ≠ pa) (k' : Nat) : Held (w.setCell ⟨pa, 0, none⟩ (.int .i64 (k' : Int))) pb pa v k' := by
  have e1 : (⟨pa, 0, none⟩ : Addr) ≠ ⟨pb, 0, none⟩ := by intro e; cases e; exact hne rfl
  exact ⟨(World.cell?_setCell_other w _ _ _ e1).trans h.b, World.cell?_setCell_same w _ _ h.a, by rw [World.frozen?_setCell]; exact h.fz⟩

theorem text_no1 (pf pb pa : Nat) (v : Value) (m k : Nat) (l : List UInt8) (w : World) (hf : w.cell? ⟨pf, 0, none⟩ = some (.func (.func 83) #[] #[.pointer (some ⟨pb, 0, none⟩), .pointer (some ⟨pa, 0, none⟩)])) (hh : Held w pb pa v k) (hr : Reads w v (bv l)) (hm : m = l.length) (hl : Hid (m ≤ maxLen)) (hk : ¬ k + 4 ≤ m) :
    Calls Tryz.prog 85 #[.pointer (some ⟨pf, 0, none⟩), .pointer (some ⟨pb, 0, none⟩), .pointer (some ⟨pa, 0, none⟩)] w fun e w' =>
      e = .returned (.tuple #[.string ⟨#[]⟩, .bool false]) ∧ w' = w := by
  have G := number_no pb pa v m k l w hh hr hm hl hk
  go_enter Tryz.func85, Tryz.ntmps85
  go_wp2_with (go_at_call 83; refine G.mono ?_; rintro e w' ⟨rfl, rfl⟩)
  go_ret2
  exact ⟨rfl, rfl⟩

theorem text_yes (pf pb pa : Nat) (v : Value) (m k q : Nat) (l : List UInt8) (w : World) (hf : w.cell? ⟨pf, 0, none⟩ = some (.func (.func 83) #[] #[.pointer (some ⟨pb, 0, none⟩), .pointer (some ⟨pa, 0, none⟩)])) (hh : Held w pb pa v k) (hr : Reads w v (bv l)) (hm : m = l.length) (hl : Hid (m ≤ maxLen)) (hq : q = k + 4) (hk : q ≤ m) (hne : pb ≠ pa) (n : Nat) (hn : numOf ((l.drop k).take 4) = n) (hv : ∀ a n c, v = .slice (some a) n c → a.block ≠ pa) :
    Calls Tryz.prog 85 #[.pointer (some ⟨pf, 0, none⟩), .pointer (some ⟨pb, 0, none⟩), .pointer (some ⟨pa, 0, none⟩)] w fun e w' =>
      (n ≤ m - q ∧ e = .returned (.tuple #[.string ⟨((l.drop q).take n).toArray⟩, .bool true]) ∧ w' = (w.setCell ⟨pa, 0, none⟩ (.int .i64 (q : Int))).setCell ⟨pa, 0, none⟩ (.int .i64 ((q + n : Nat) : Int))) ∨
      (¬ n ≤ m - q ∧ e = .returned (.tuple #[.string ⟨#[]⟩, .bool false]) ∧ w' = w.setCell ⟨pa, 0, none⟩ (.int .i64 (q : Int))) := by
  have G := number_ok pb pa v m k l w hh hr hm hl (by omega)
  rw [hn, ← hq] at G
  have hH := hh.set hne q
  have c1 := hH.b
  have c2 := hH.a
  have c3 := hH.fz
  have hl' : m ≤ 9223372036854775807 := by have := hl.out; unfold maxLen at this; omega
  obtain ⟨ao, c, hv'⟩ : ∃ ao c, v = .slice ao m c := by obtain ⟨ao, c, rfl, _⟩ := hr; exact ⟨ao, c, by rw [bv_length, hm]⟩
  subst hv'
  generalize hw1 : w.setCell ⟨pa, 0, none⟩ (.int .i64 (q : Int)) = w1 at *
  have hr1 : ∀ x, Reads (w1.setCell ⟨pa, 0, none⟩ x) (.slice ao m c) (bv l) := fun x => by
    rw [← hw1]
    exact hr.grown (grown_set (grown_set (grown_refl w (some pa)) 0 _) 0 _) (by intro a n c e; have := hv a n c e; simpa using this)
  have hq4 : 4 ≤ q := by omega
  clear hr hw1 hv hH hh hq hn
  have n1 : wrap64 ((m : Int) - (q : Int)) = ((m - q : Nat) : Int) := by rw [wrap64_id _ (by omega)]; omega
  by_cases hle : n ≤ m - q
  · have h3 : ¬ ((m - q : Nat) : Int) < (n : Int) := by omega
    have n2 : wrap64 ((q : Int) + (n : Int)) = ((q + n : Nat) : Int) := by rw [wrap64_id _ (by omega)]; omega
    have n3 : wrap64 (((q + n : Nat) : Int) - (n : Int)) = (q : Int) := by rw [wrap64_id _ (by omega)]; omega
    obtain ⟨a, rfl⟩ : ∃ a, ao = some a := by
      cases ao with
      | some a => exact ⟨a, rfl⟩
      | none =>
        obtain ⟨ao', c', e, _, hn0, _⟩ := hr1 (.bool true)
        simp only [Value.slice.injEq] at e
        have := (hn0 e.1.symm).1
        have : l = [] := by simpa [bv] using this
        subst this; simp at hm; omega
    have hmc : m ≤ c := by
      obtain ⟨ao', c', e, h0, _⟩ := hr1 (.bool true)
      simp only [Value.slice.injEq] at e
      rw [bv_length] at h0
      omega
    have hcell : ∀ x j u, l[j]? = some u → (w1.setCell ⟨pa, 0, none⟩ x).cell? (a.add j) = some (.int .u8 (u.toNat : Int)) := fun x j u hj => by
      obtain ⟨ao', c', e, _, _, h2⟩ := hr1 x
      simp only [Value.slice.injEq] at e
      exact h2 a e.1.symm j _ (by simp [bv, hj])
    have hcv : ∀ x c', (convert 45 9 (.slice (some (a.add q)) n c')).run Tryz.prog (w1.setCell ⟨pa, 0, none⟩ x) = .ok (.string ⟨((l.drop q).take n).toArray⟩) (w1.setCell ⟨pa, 0, none⟩ x) := fun x c' => by
      have hlen : ((l.drop q).take n).length = n := by simp; omega
      have := run_convert_bytes_back (P := Tryz.prog) (w1.setCell ⟨pa, 0, none⟩ x) 45 9 5 (a.add q) c' ((l.drop q).take n) Tryz.underlying45 Tryz.underlying5 Tryz.underlying9 (fun j hj => by
        rw [Addr.add_add]
        refine hcell x (q + j) _ ?_
        rw [← List.getElem?_drop, ← List.getElem?_take_of_lt (by omega : j < n)]
        exact List.getElem?_eq_getElem hj)
      rw [hlen] at this
      exact this
    have HM := Lib.hid hm
    clear hcell hr1 hm
    by_cases hc : c = q
    · obtain rfl : n = 0 := by omega
      have hcv0 : ∀ x, (convert 45 9 (.slice (some a) 0 0)).run Tryz.prog (w1.setCell ⟨pa, 0, none⟩ x) = .ok (.string ⟨#[]⟩) (w1.setCell ⟨pa, 0, none⟩ x) := fun x =>
        run_convert_bytes_back (P := Tryz.prog) (w1.setCell ⟨pa, 0, none⟩ x) 45 9 5 a 0 [] Tryz.underlying45 Tryz.underlying5 Tryz.underlying9 (fun j hj => by simp at hj)
      clear hcv
      subst hc
      go_enter Tryz.func85, Tryz.ntmps85
      go_wp2_with (go_at_call 83; refine G.mono ?_; rintro e w' ⟨rfl, rfl⟩)
      go_ret2
      exact .inl ⟨by omega, rfl, rfl⟩
    · have hc2 : ¬ c = q := hc
      have x1 : ((q + n : Nat) : Int) ≤ (c : Int) := by omega
      have x2 : q ≤ q + n := by omega
      have x3 : q + n ≤ c := by omega
      go_enter Tryz.func85, Tryz.ntmps85
      go_wp2_with (go_at_call 83; refine G.mono ?_; rintro e w' ⟨rfl, rfl⟩)
      go_ret2
      exact .inl ⟨hle, rfl, by simp⟩
  · have h3 : ((m - q : Nat) : Int) < (n : Int) := by omega
    clear hr1 hm
    go_enter Tryz.func85, Tryz.ntmps85
    go_wp2_with (go_at_call 83; refine G.mono ?_; rintro e w' ⟨rfl, rfl⟩)
    go_ret2
    exact .inr ⟨hle, rfl, rfl⟩

/-- What the closure leaves. -/
def TextDone (w : World) (pb pa : Nat) (v : Value) (l : List UInt8) (k : Nat) (e : Ending) (w' : World) : Prop :=
  w.grownBy w' (some pa) ∧
  ((∃ t k', text? (l.drop k) = some (t, l.drop k') ∧ k' ≤ l.length ∧ e = .returned (.tuple #[.string ⟨t.toArray⟩, .bool true]) ∧ Held w' pb pa v k') ∨
   (text? (l.drop k) = none ∧ e = .returned (.tuple #[.string ⟨#[]⟩, .bool false])))

theorem text_any (pf pb pa : Nat) (v : Value) (m k : Nat) (l : List UInt8) (w : World) (hf : w.cell? ⟨pf, 0, none⟩ = some (.func (.func 83) #[] #[.pointer (some ⟨pb, 0, none⟩), .pointer (some ⟨pa, 0, none⟩)])) (hh : Held w pb pa v k) (hr : Reads w v (bv l)) (hm : m = l.length) (hl : Hid (m ≤ maxLen)) (hne : pb ≠ pa) (hv : ∀ a n c, v = .slice (some a) n c → a.block ≠ pa) :
    Calls Tryz.prog 85 #[.pointer (some ⟨pf, 0, none⟩), .pointer (some ⟨pb, 0, none⟩), .pointer (some ⟨pa, 0, none⟩)] w (TextDone w pb pa v l k) := by
  by_cases hk : k + 4 ≤ m
  · obtain ⟨n, hn⟩ : ∃ n : Nat, numOf ((l.drop k).take 4) = n := ⟨_, (Int.toNat_of_nonneg (numOf_bound _).1).symm⟩
    have hnum := num_drop (l := l) (k := k) (by omega)
    rw [hn, Int.toNat_natCast] at hnum
    have g1 : w.grownBy (w.setCell ⟨pa, 0, none⟩ (.int .i64 ((k + 4 : Nat) : Int))) (some pa) := grown_set (grown_refl w (some pa)) 0 _
    refine (text_yes pf pb pa v m k (k + 4) l w hf hh hr hm hl rfl hk hne n hn hv).mono ?_
    rintro e w' (⟨hle, rfl, rfl⟩ | ⟨hle, rfl, rfl⟩)
    · refine ⟨grown_set g1 0 _, .inl ⟨_, k + 4 + n, ?_, by omega, rfl, (hh.set hne (k + 4)).set hne (k + 4 + n)⟩⟩
      unfold text?
      rw [hnum]
      simp only
      rw [if_pos (by simp; omega), List.drop_drop]
    · refine ⟨g1, .inr ⟨?_, rfl⟩⟩
      unfold text?
      rw [hnum]
      simp only
      rw [if_neg (by simp; omega)]
  · refine (text_no1 pf pb pa v m k l w hf hh hr hm hl hk).mono ?_
    rintro e w' ⟨rfl, rfl⟩
    refine ⟨grown_refl _ _, .inr ⟨?_, rfl⟩⟩
    unfold text?
    rw [num_drop_no (by omega)]

theorem Held.below {w w' : World} {pb pa B : Nat} {v : Value} {k : Nat} (h : Held w pb pa v k) (hb : Below B w w') (h1 : pb < B) (h2 : pa < B) : Held w' pb pa v k :=
  ⟨(World.cell?_of_block (hb.block _ h1)).trans h.b, (World.cell?_of_block (hb.block _ h2)).trans h.a, (World.frozen?_of_block (hb.block _ h2)).trans h.fz⟩

/-- What Decode leaves. -/
def Decoded (l : List UInt8) (w : World) (e : Ending) (w' : World) : Prop :=
  Below w.heap.size w w' ∧ ((∃ L ao c, dec l = some L ∧ e = .returned (.tuple #[.slice ao L.length c, .int .i64 0]) ∧ Texts w' (.slice ao L.length c) L.length L) ∨
    (dec l = none ∧ e = .returned (.tuple #[.slice none 0 0, .int .i64 2])))

theorem decode_anyL (v : Value) (m : Nat) (l : List UInt8) (w : World) (hr : Reads w v (bv l)) (hm : m = l.length) (hl : Hid (m ≤ maxLen)) :
    Calls Tryz.prog 40 #[v] w (Decoded l w) := by
  obtain ⟨ao, c, hv'⟩ : ∃ ao c, v = .slice ao m c := by obtain ⟨ao, c, rfl, _⟩ := hr; exact ⟨ao, c, by rw [bv_length, hm]⟩
  subst hv'
  have HR := Lib.hid (And.intro hr hm)
  clear hr hm
  have hst : ∀ (a : Addr) (fn : Fn) (first cap : Array Value) (m : Mode) (w : World), (store a (.func fn first cap) m).run Tryz.prog w = stored Tryz.prog w a (.func fn first cap) m := fun a fn first cap m w => run_store Tryz.prog w a _ m rfl
  go_enter Tryz.func40, Tryz.ntmps40
  go_wp2_with fail
  obtain ⟨w3, hw3⟩ : ∃ w3, w3 = (((w.alloc (Obj.cells #[Value.slice ao m c] 45)).alloc (Obj.cells #[Value.int IntKind.i64 0] 3)).alloc (Obj.cells #[Value.func (Fn.func 83) #[] #[Value.pointer (some { block := w.heap.size, off := 0 }), Value.pointer (some { block := w.heap.size + 1, off := 0 })]] 140)) := ⟨_, rfl⟩
  rw [← hw3]
  have hB3 : Below w.heap.size w w3 := by rw [hw3]; exact (((Below.refl _ w).alloc (Nat.le_refl _) _).alloc (by simp) _).alloc (by simp; omega) _
  have hs3 : w3.heap.size = w.heap.size + 3 := by rw [hw3]; simp
  have hH3 : Held w3 w.heap.size (w.heap.size + 1) (.slice ao m c) 0 := by
    rw [hw3]
    refine ⟨?_, ?_, ?_⟩ <;> go_simp
  have hf3 : w3.cell? ⟨w.heap.size + 2, 0, none⟩ = some (.func (.func 83) #[] #[.pointer (some ⟨w.heap.size, 0, none⟩), .pointer (some ⟨w.heap.size + 1, 0, none⟩)]) := by rw [hw3]; go_simp
  clear hw3
  have hr3 : Reads w3 (.slice ao m c) (bv l) := by
    obtain ⟨ao', c', e, h0, h1, h2⟩ := HR.out.1
    refine ⟨ao', c', e, h0, h1, fun a ha j u hj => ?_⟩
    have hc := h2 a ha j u hj
    rw [World.cell?_of_block (hB3.block _ (World.block_lt_of_cell? w _ hc))]
    exact hc
  have hv : ∀ a n c', Value.slice ao m c = .slice (some a) n c' → 0 < m → a.block < w.heap.size := by
    intro a n c' e h0
    obtain ⟨ao', c'', e', _, _, h2⟩ := HR.out.1
    have hm := HR.out.2
    simp only [Value.slice.injEq] at e e'
    have hx : (bv l)[0]? = some (bv l)[0] := List.getElem?_eq_getElem (by rw [bv_length]; omega)
    have := h2 a (by rw [← e'.1, e.1]) 0 _ hx
    have := World.block_lt_of_cell? w _ this
    simpa [Addr.add] using this
  have hm := HR.out.2
  have HRW := Lib.hid HR.out.1
  by_cases h4 : 4 ≤ m
  · obtain ⟨n, hn⟩ : ∃ n : Nat, numOf ((l.drop 0).take 4) = n := ⟨_, (Int.toNat_of_nonneg (numOf_bound _).1).symm⟩
    have hnum := num_drop (l := l) (k := 0) (by omega)
    rw [hn, Int.toNat_natCast, List.drop_zero] at hnum
    have hlist : list? l = texts? n (l.drop 4) := by unfold list?; rw [hnum]
    have HN32 : Hid (n < 4294967296) := Lib.hid (by have h := num_under (l := (l.drop 0).take 4) (by simp; omega); omega)
    refine (number_ok w.heap.size (w.heap.size + 1) _ m 0 l w3 hH3 hr3 hm hl (by omega)).mono ?_
    rintro e w4 ⟨rfl, hw4⟩
    rw [hn]
    have hg4 : w3.grownBy w4 (some (w.heap.size + 1)) := by rw [hw4]; exact grown_set (grown_refl _ _) 0 _
    have hH4 : Held w4 w.heap.size (w.heap.size + 1) (.slice ao m c) 4 := by rw [hw4]; exact hH3.set (by omega) 4
    have hf4 := hg4.cell hf3 (by simp)
    have hr4 := hr3.grown hg4 (by intro a n c' e h; have := hv a n c' e (by omega); simp only [Option.some.injEq] at h; omega)
    have hs4 : w4.heap.size = w.heap.size + 3 := by rw [hw4]; simpa [World.setCell] using hs3
    have hB4 : Below w.heap.size w w4 := ⟨hg4.os.trans hB3.os, hg4.tape.trans hB3.tape, hg4.output.trans hB3.output, Nat.le_trans hB3.size hg4.size, fun i hi => (hg4.block i (by omega) (by simp; omega)).trans (hB3.block i hi)⟩
    have b1 := hH4.b
    have b2 := hH4.a
    have n1 : wrap64 ((m : Int) - ((4 : Nat) : Int)) = ((m - 4 : Nat) : Int) := by rw [wrap64_id _ (by have := hl.out; unfold maxLen at this; omega)]; omega
    have n2 : wrap64 ((m : Int) - 4) = ((m - 4 : Nat) : Int) := n1
    have HH := Lib.hid (And.intro hH4 (And.intro hf4 (And.intro hr4 (And.intro hs4 (And.intro hB4 hlist)))))
    have HV := Lib.hid hv
    have HM := Lib.hid hm
    clear hr3 hf3 hH3 hs3 hB3 hw4 hg4 hH4 hf4 hr4 hs4 hB4 hlist hv hm hnum hn HR n1
    have n3 : wrap64 (((m - 4 : Nat) : Int) / 4) = (((m - 4) / 4 : Nat) : Int) := by rw [wrap64_id _ (by have := hl.out; unfold maxLen at this; omega)]; omega
    by_cases h5 : (m - 4) / 4 < n
    · have h6 : (((m - 4) / 4 : Nat) : Int) < (n : Int) := by omega
      have hd : dec l = none := by
        unfold dec
        rw [HH.out.2.2.2.2.2]
        cases ht : texts? n (l.drop 4) with
        | none => rfl
        | some x => obtain ⟨L, q⟩ := x; have := texts_need n ht; have hm := HM.out; simp at this; omega
      have HD := Lib.hid (And.intro HH.out.2.2.2.2.1 hd)
      clear HH hd HV HM hst
      go_wp2_with fail
      go_ret2
      exact ⟨HD.out.1, .inr ⟨HD.out.2, rfl⟩⟩
    · have h6 : ¬ (((m - 4) / 4 : Nat) : Int) < (n : Int) := by omega
      have hn1 : n ≤ 4294967296 := by have := HN32.out; omega
      have HN : Hid (n ≤ 4294967296) := Lib.hid hn1
      clear hst
      go_wp2_with (at_make; refine wpList_make_texts rfl _ _ rfl (w.heap.size + 3) n n rfl rfl rfl HN (by rw [HH.out.2.2.2.1]; omega) ?_; intro w5 hown5 hb5)
      have hb5' : Below (w.heap.size + 3) w4 w5 := hb5
      have H0 : Hid (Ss w5 (w.heap.size + 3) (.slice (some ⟨w4.heap.size, 0, none⟩) 0 n) 0 [] ∧ Held w5 w.heap.size (w.heap.size + 1) (.slice ao m c) 4 ∧ w5.cell? ⟨w.heap.size + 2, 0, none⟩ = some (.func (.func 83) #[] #[.pointer (some ⟨w.heap.size, 0, none⟩), .pointer (some ⟨w.heap.size + 1, 0, none⟩)]) ∧ Below w.heap.size w w5 ∧ w.heap.size + 3 ≤ w5.heap.size) := by
        obtain ⟨h1, h2, h3, h4, h5, _⟩ := HH.out
        refine Lib.hid ⟨hown5, h1.below hb5' (by omega) (by omega), (World.cell?_of_block (hb5'.block _ (by show w.heap.size + 2 < _; omega))).trans h2, h5.trans (hb5'.mono (by omega)), by have := hb5'.size; omega⟩
      have HL := Lib.hid HH.out.2.2.2.2.2
      clear hown5 hb5 hb5' HH b1 b2 n2 n3 h5 h6
      go_loopw [9, 33] (fun lv i wr => ∃ j : Nat, j ≤ n ∧ i = .int .i64 j ∧ Hid (∃ ao' c' L k, lv = .slice ao' j c' ∧ Ss wr (w.heap.size + 3) (.slice ao' j c') j L ∧ k ≤ m ∧ Held wr w.heap.size (w.heap.size + 1) (.slice ao m c) k ∧ wr.cell? ⟨w.heap.size + 2, 0, none⟩ = some (.func (.func 83) #[] #[.pointer (some ⟨w.heap.size, 0, none⟩), .pointer (some ⟨w.heap.size + 1, 0, none⟩)]) ∧ Below w.heap.size w wr ∧ w.heap.size + 3 ≤ wr.heap.size ∧ (∀ s ∈ L, s.size ≤ m) ∧ list? l = (texts? (n - j) (l.drop k)).map fun x => (L ++ x.1, x.2)))
        (fun _ i _ => n - (intOf i).toNat)
      case atStart =>
        obtain ⟨h1, h2, h3, h4, h5⟩ := H0.out
        exact ⟨0, Nat.zero_le _, rfl, Lib.hid ⟨_, _, [], 4, rfl, h1, by omega, h2, h3, h4, h5, (fun s hs => by cases hs), by rw [HL.out, Nat.sub_zero]; cases texts? n (l.drop 4) <;> rfl⟩⟩
      case round =>
        obtain ⟨j, hj, rfl, hrel⟩ := hrel
        obtain ⟨ao', c', L, k, rfl, hown, hk, hheld, hfc, hbel, hsz, hall, hli⟩ := hrel.out
        clear H0 hrel
        by_cases h1 : j < n
        · have h3 : (j : Int) < (n : Int) := by omega
          have hrr : Reads wr (.slice ao m c) (bv l) := HRW.out.later hbel
          have TX := text_any (w.heap.size + 2) w.heap.size (w.heap.size + 1) _ m k l wr hfc hheld hrr HM.out hl (by omega) (by intro a n c' e; have := HV.out a n c' e (by omega); omega)
          have HK := Lib.hid (And.intro hown (And.intro hfc (And.intro hbel (And.intro hsz (And.intro hall hli)))))
          clear hown hfc hbel hsz hall hli hheld hrr
          go_wp2_with fail
          refine TX.mono ?_
          rintro e w6 ⟨hg6, ⟨t, k', ht, hk', rfl, hheld6⟩ | ⟨ht, rfl⟩⟩
          · have hB6 : Below w.heap.size w w6 := ⟨hg6.os.trans HK.out.2.2.1.os, hg6.tape.trans HK.out.2.2.1.tape, hg6.output.trans HK.out.2.2.1.output, Nat.le_trans HK.out.2.2.1.size hg6.size, fun i hi => (hg6.block i (by have := HK.out.2.2.1.size; omega) (by simp; omega)).trans (HK.out.2.2.1.block i hi)⟩
            have hf6 := hg6.cell HK.out.2.1 (by simp)
            have hown6 : Ss w6 (w.heap.size + 3) (.slice ao' j c') j L := ⟨HK.out.1.1, HK.out.1.2.kept hg6 (by
              cases ao' with
              | none => exact .inl rfl
              | some a => right; intro e; have := (HK.out.1.2.lt a.block rfl).1; simp only [Value.ownBlock, Option.some.injEq] at e; omega)⟩
            have hsz6 : w.heap.size + 3 ≤ w6.heap.size := Nat.le_trans HK.out.2.2.2.1 hg6.size
            have htl : t.length ≤ m := by
              have := HM.out
              unfold text? at ht
              split at ht
              · cases ht
              · next n' q hq =>
                unfold num? at hq
                split at hq
                · simp only [Option.some.injEq, Prod.mk.injEq] at hq
                  split at ht
                  · simp only [Option.some.injEq, Prod.mk.injEq] at ht
                    rw [← ht.1, ← hq.2]
                    simp; omega
                  · cases ht
                · cases hq
            have hli6 : list? l = (texts? (n - (j + 1)) (l.drop k')).map fun x => ((L ++ [⟨t.toArray⟩]) ++ x.1, x.2) := by
              rw [HK.out.2.2.2.2.2, show n - j = (n - (j + 1)) + 1 by omega, texts?, ht]
              simp only
              cases texts? (n - (j + 1)) (l.drop k') with
              | none => rfl
              | some x => obtain ⟨M, q⟩ := x; simp
            have H6 : Hid (Held w6 w.heap.size (w.heap.size + 1) (.slice ao m c) k' ∧ _) := Lib.hid (And.intro hheld6 (And.intro hf6 (And.intro hB6 (And.intro hsz6 (And.intro htl (And.intro hk' (And.intro hli6 HK.out.2.2.2.2.1)))))))
            have H1 : Hid (j + 1 ≤ maxLen) := Lib.hid (by unfold maxLen; omega)
            have H2 : Hid ((j + 1) * 16 ≤ 140737488355328) := Lib.hid (by omega)
            have HO := Lib.hid hown6
            clear hheld6 hf6 hB6 htl hli6 ht HK TX hk' hg6 hown6
            go_wp2_with (at_builtin; refine wpList_append_texts rfl (.tmp 42) (.tmp 44) rfl (w.heap.size + 3) (.slice ao' j c') j L rfl (HO.out.alloc _) (.slice (some ⟨w6.heap.size, 0, none⟩) 1 1) 1 [⟨t.toArray⟩] rfl rfl (Reads.lit w6 (sv [⟨t.toArray⟩]) _ (0, 0) 1 rfl) (j + 1) rfl H1 H2 (by simp; omega) ?_; intro ao7 c7 w7 hown7 hb7)
            have HO7 := Lib.hid (And.intro hown7 hb7)
            clear hown7 hb7
            go_roundw
            case rel =>
              obtain ⟨h1, h2, h3, h4, h5, h6, h7, h8⟩ := H6.out
              obtain ⟨hown7, hb7⟩ := HO7.out
              have hb8 : Below (w.heap.size + 3) w6 w7 := ((Below.refl _ w6).alloc h4 _).trans hb7
              refine ⟨j + 1, by omega, by simp, Lib.hid ⟨ao7, c7, L ++ [⟨t.toArray⟩], k', rfl, hown7, by have := HM.out; omega, h1.below hb8 (by omega) (by omega), (World.cell?_of_block (hb8.block _ (by show w.heap.size + 2 < _; omega))).trans h2, h3.trans (hb8.mono (by omega)), by have := hb8.size; omega, fun s hs => ?_, h7⟩⟩
              rcases List.mem_append.1 hs with hs | hs
              · exact h8 s hs
              · simp only [List.mem_singleton] at hs
                subst hs
                show t.toArray.size ≤ m
                simpa using h5
            case measure => simp [intOf]; omega
          · have hB6 : Below w.heap.size w w6 := ⟨hg6.os.trans HK.out.2.2.1.os, hg6.tape.trans HK.out.2.2.1.tape, hg6.output.trans HK.out.2.2.1.output, Nat.le_trans HK.out.2.2.1.size hg6.size, fun i hi => (hg6.block i (by have := HK.out.2.2.1.size; omega) (by simp; omega)).trans (HK.out.2.2.1.block i hi)⟩
            have hd : dec l = none := by
              unfold dec
              rw [HK.out.2.2.2.2.2, show n - j = (n - (j + 1)) + 1 by omega, texts?, ht]
              rfl
            have HD := Lib.hid (And.intro hB6 hd)
            clear hB6 hd HK TX ht hg6
            go_wp2_with fail
            go_ret2
            exact ⟨HD.out.1, .inr ⟨HD.out.2, rfl⟩⟩
        · have h3 : ¬ (j : Int) < (n : Int) := by omega
          obtain rfl : j = n := by omega
          have b1 := hheld.b
          have b2 := hheld.a
          rw [Nat.sub_self] at hli
          have hli2 : list? l = some (L, l.drop k) := by rw [hli]; simp [texts?]
          by_cases hkm : k = m
          · have hd : dec l = some L := by
              have : l.drop k = [] := List.drop_eq_nil_of_le (by have := HM.out; omega)
              unfold dec
              rw [hli2, this]
            have HD := Lib.hid (And.intro hbel (And.intro hd (hown.texts (by unfold maxLen; omega) (fun s hs => Nat.le_trans (hall s hs) (by have := hl.out; unfold maxLen at this ⊢; omega)))))
            have hL := hown.1
            subst hkm hL
            clear hli hli2 hown hheld hfc hall hbel hd
            go_wp2_with fail
            go_ret2
            exact ⟨HD.out.1, .inl ⟨L, ao', c', HD.out.2.1, rfl, HD.out.2.2⟩⟩
          · have hd : dec l = none := by
              have : l.drop k ≠ [] := by
                intro e
                have := congrArg List.length e
                have hm := HM.out
                simp at this
                omega
              unfold dec
              rw [hli2]
              cases hx : l.drop k with
              | nil => exact absurd hx this
              | cons x xs => rfl
            have HD := Lib.hid (And.intro hbel hd)
            have hne : ¬ (k : Int) = (m : Int) := by omega
            clear hli hli2 hown hheld hfc hall hbel hd
            go_wp2_with fail
            go_ret2
            exact ⟨HD.out.1, .inr ⟨HD.out.2, rfl⟩⟩
  · refine (number_no w.heap.size (w.heap.size + 1) _ m 0 l w3 hH3 hr3 hm hl (by omega)).mono ?_
    rintro e w4 ⟨rfl, rfl⟩
    have hd : dec l = none := by
      have := num_drop_no (l := l) (k := 0) (by omega)
      rw [List.drop_zero] at this
      unfold dec list?
      rw [this]
    have HB := Lib.hid (And.intro hB3 hd)
    clear hr3 hf3 hH3 hs3 hB3 hd hv hm
    go_wp2_with fail
    go_ret2
    exact ⟨HB.out.1, .inr ⟨HB.out.2, rfl⟩⟩

theorem decode_any (v : Value) (m : Nat) (l : List UInt8) (w : World) (hr : Reads w v (bv l)) (hm : m = l.length) (hl : Hid (m ≤ 1000000000)) :
    Calls Tryz.prog 40 #[v] w (Decoded l w) := decode_anyL v m l w hr hm (hid_small hl)

end Go.Proofs.YtlgfijjkbomejaaGreatDoor
