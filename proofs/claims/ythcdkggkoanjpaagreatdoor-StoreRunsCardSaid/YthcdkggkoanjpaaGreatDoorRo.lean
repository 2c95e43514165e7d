/- The reference's Sync and Cut. Numbers and types by name. -/
import Derived.Test.YthcdkggkoanjpaaGreatDoorRl
import Derived.Test.YthcdkggkoanjpaaGreatDoorCc
namespace Go.Proofs.YthcdkggkoanjpaaGreatDoor
open Go.RowKit Go.Maps Go.Sort Go.WideMaps
def blanks : List Value := [.string ⟨#[]⟩, .slice none 0 0, .int .i64 0]
def blankE : Ent := ([], [], 0)
theorem put_grownD {w1 W w6 : World} {r n c c6 : Nat} {s : RS} {M : MD} {G : List Nat} {xs : List Value} {ao ao6 : Option Addr} (tW : Turn [] w1 W) (hR : RefC w1 r s) (hP : RP w1 s M G) (hT : TellR w1 G xs M.fs)
    (hown : w1.ownsRow 0 104 3 (.slice ao n c) n xs) (hne : (Value.slice ao n c).ownBlock ≠ some r) (hG : ∀ k ∈ G, k ≠ r ∧ (Value.slice ao n c).ownBlock ≠ some k ∧ k < w1.heap.size)
    (hown6 : w6.ownsRow 0 104 3 (.slice ao6 (n + 1) c6) (n + 1) (xs ++ blanks)) (hg6 : W.grownBy w6 (Value.slice ao n c).ownBlock) (ho6 : (Value.slice ao6 (n + 1) c6).ownBlock = (Value.slice ao n c).ownBlock ∨ (Value.slice ao6 (n + 1) c6).ownBlock = some W.heap.size) :
    RefC w6 r s ∧ ∃ g6, ao6 = some ⟨g6, 0, none⟩ ∧ g6 ≠ r ∧ ((Value.slice ao n c).ownBlock = some g6 ∨ w1.heap.size ≤ g6) ∧ g6 ∉ G ∧ RefC (w6.setCell ⟨r, 5, none⟩ (.slice ao6 (n + 1) c6)) r { s with fv := .slice ao6 (n + 1) c6 } ∧ RP (w6.setCell ⟨r, 5, none⟩ (.slice ao6 (n + 1) c6)) { s with fv := .slice ao6 (n + 1) c6 } M G ∧
      (w6.setCell ⟨r, 5, none⟩ (.slice ao6 (n + 1) c6)).ownsRow 0 104 3 (.slice ao6 (n + 1) c6) (n + 1) (xs ++ blanks) ∧ TellR (w6.setCell ⟨r, 5, none⟩ (.slice ao6 (n + 1) c6)) G (xs ++ blanks) (M.fs ++ [blankE]) ∧
      Turn (r :: (Value.slice ao n c).ownBlock.toList) w1 (w6.setCell ⟨r, 5, none⟩ (.slice ao6 (n + 1) c6)) := by
  have hrl := hR.lt
  have t6 : Turn (Value.slice ao n c).ownBlock.toList w1 w6 := (tW.mono (by simp)).trans (Turn.of_grown hg6 (by intro k e; simp [e]))
  have hrn : r ∉ (Value.slice ao n c).ownBlock.toList := by simpa using hne
  have hGn : ∀ k ∈ G, k ∉ (Value.slice ao n c).ownBlock.toList := fun k hk => by simpa using (hG k hk).2.1
  have t5 : Turn [r] w6 (w6.setCell ⟨r, 5, none⟩ (.slice ao6 (n + 1) c6)) := (Turn.refl [r] w6).set (.inl (by simp)) 5 _
  have hGr : ∀ k ∈ G, k ∉ [r] := fun k hk => by simpa using (hG k hk).1
  have hR6 := hR.turn t6 hrn
  obtain ⟨g6, rfl⟩ : ∃ g6, ao6 = some ⟨g6, 0, none⟩ := by
    rcases hown6.2 with ⟨hv, h0⟩ | ⟨g, cap, cur, hv, _⟩
    · omega
    · simp only [Value.slice.injEq] at hv
      exact ⟨g, hv.1⟩
  have hor : (Value.slice ao n c).ownBlock = some g6 ∨ w1.heap.size ≤ g6 := by
    rcases ho6 with e | e
    · exact .inl (e.symm.trans rfl)
    · have : g6 = W.heap.size := by simpa [Value.ownBlock] using e
      exact .inr (by rw [this]; exact tW.size)
  have hgr : g6 ≠ r := by
    rintro rfl
    rcases hor with e | e
    · exact hne e
    · omega
  refine ⟨hR6, g6, rfl, hgr, hor, fun hm => ?_, hR6.set5 _, ?_, owns_turn hown6 t5 (fun g hg => by
      have : g6 = g := by simpa [Value.ownBlock] using hg
      subst this; simpa using hgr), ?_, (t6.mono (by intro k hk; exact List.mem_cons_of_mem _ hk)).trans (t5.mono (by simp))⟩
  · rcases hor with e | e
    · exact (hG _ hm).2.1 e
    · have := (hG _ hm).2.2; omega
  · have hP6 := (hP.turn t6 hGn).turn t5 hGr
    exact ⟨hP6.cap, hP6.cr, hP6.dn, hP6.n, hP6.dw, hP6.fail, hP6.keep, hP6.failG, hP6.keepG, hP6.n0⟩
  · have hT6 := (hT.turn t6 hGn).turn t5 hGr
    exact hT6.snoc blankE none 0 (Reads.nil _) (by intro _ a e; cases e)
set_option maxRecDepth 100000 in
set_option maxHeartbeats 4000000 in
theorem ref_put (r : Nat) (M : MD) (F G : List Nat) (x : Ent) (ab : Option Addr) (cb : Nat) (w : World) (h : RD w r M F G) (hl : M.fs.length < 900000) (hfit : Fit (insE x M.fs)) (hrx : Reads w (.slice ab x.2.1.length cb) (bv x.2.1)) (hgx : x.2.1 ≠ [] → ∀ a, ab = some a → a.block ∈ G) :
    Calls Tryz.prog 120 #[theRef r, .agg #[encStr x.1, .slice ab x.2.1.length cb, .int .i64 (x.2.2 : Nat)]] w fun e w' => e = .returned (.tuple #[]) ∧ RNext w w' r { M with fs := insE x M.fs } F G [] := by
  have hlt := h.lt
  obtain ⟨hf, s, ao, c, xs, hR, hP, hv, hown, hT, hF, hne, hGd⟩ := h
  obtain ⟨n, hn⟩ : ∃ n, n = M.fs.length := ⟨_, rfl⟩
  have HN := Lib.hid hn
  rw [← hn] at hv hown hl
  have hrl := hR.lt
  -- the box
  have tb : Turn [] w (w.alloc (.cells #[encStr x.1, .slice ab x.2.1.length cb, .int .i64 (x.2.2 : Nat)] 104)) := (Turn.refl [] w).alloc _
  have hbox := heap_alloc_new w (.cells #[encStr x.1, .slice ab x.2.1.length cb, .int .i64 (x.2.2 : Nat)] 104)
  have hR1 := hR.turn tb (by simp)
  have hown1 := owns_turn hown tb (by simp)
  have hT1 := hT.turn tb (by simp)
  have hP1 := hP.turn tb (by simp)
  have hrx1 := hrx.turn tb (by simp)
  have b0 := cells_of hbox 0 (encStr x.1) rfl
  have HB := Lib.hid hbox
  have HTB := Lib.hid tb
  have c5 := hR1.c5
  rw [hv] at c5
  unfold theRef
  unfold encStr at *
  go_enter Tryz.func120, Tryz.ntmps120
  go_wp2_with fail
  have e1 : (w.alloc (.cells #[Value.string ⟨x.1.toArray⟩, .slice ab x.2.1.length cb, .int .i64 (x.2.2 : Nat)] 104)).heap.size = w.heap.size + 1 := by simp
  generalize w.alloc (.cells #[Value.string ⟨x.1.toArray⟩, .slice ab x.2.1.length cb, .int .i64 (x.2.2 : Nat)] 104) = w1 at *
  have HR1 := Lib.hid (And.intro hR1 (And.intro hP1 (And.intro hown1 (And.intro hT1 hrx1))))
  have HW := Lib.hid (And.intro hF (And.intro hne (And.intro hGd (And.intro hlt (And.intro hrl (And.intro e1 (And.intro hgx hfit)))))))
  have hxl : xs.length = n * 3 := by rw [hT.1, hn]
  have HXL := Lib.hid hxl
  clear hR hR1 hP hP1 hown hT hT1 hrx hrx1 hgx hF hne hGd hlt hrl e1 hfit hbox tb hf hn hv hxl
  go_loopw [4] (fun i wr => ∃ k q : Nat, k ≤ n ∧ i = .int .i64 k ∧ Hid (∀ j, j < k → ∀ y, M.fs[j]? = some y → y.1 < x.1) ∧ wr = w1.drewN q)
    (fun i _ => n - (intOf i).toNat)
  case atStart => exact ⟨0, 0, Nat.zero_le _, rfl, Lib.hid (fun j hj => by omega), rfl⟩
  case round =>
    obtain ⟨k, q, hk, rfl, hlow, rfl⟩ := hrel
    have hfin : (∀ y, M.fs[k]? = some y → ¬ y.1 < x.1) → Hid (insE x M.fs = M.fs.take k ++ x :: M.fs.drop k) := fun h2 => Lib.hid (insE_at (by have := HN.out; omega) hlow.out h2)
    by_cases hless : ∃ y, M.fs[k]? = some y ∧ y.1 < x.1
    · obtain ⟨y, hy, hlss⟩ := hless
      have h1 : k < n := by have := (List.getElem?_eq_some_iff.1 hy).1; have := HN.out; omega
      have h3 : decide ((k : Int) < (n : Int)) = true := by simp; omega
      obtain ⟨_, _, q1, _⟩ := HR1.out.2.2.2.1.2 k y hy
      obtain ⟨g, rfl, k1, _⟩ := row_cell HR1.out.2.2.1 HXL.out q1
      unfold encStr at k1
      have hb : Op.bytesLess y.1 x.1 = true := by rw [bytesLess_eq]; simpa using hlss
      have HX := Lib.hid (And.intro hy hlss)
      clear hy hlss q1 hfin
      go_wp2_with fail
      go_quiet (fail)
      go_wp2_with fail
      refine ⟨⟨k + 1, _, by omega, by simp, Lib.hid (fun j hj z hz => ?_), rfl⟩, by simp [intOf]; omega⟩
      by_cases hjk : j < k
      · exact hlow.out j hjk z hz
      · obtain rfl : j = k := by omega
        rw [HX.out.1] at hz
        cases hz
        exact HX.out.2
    · have HINS := hfin (fun z hz hlss => hless ⟨z, hz, hlss⟩)
      have FL : Hid (n + 1 ≤ 1000000) := Lib.hid (by omega)
      clear hfin
      by_cases h1 : k < n
      case' pos =>
        have h3 : decide ((k : Int) < (n : Int)) = true := by simp; omega
        obtain ⟨y, hy⟩ : ∃ y, M.fs[k]? = some y := ⟨_, List.getElem?_eq_getElem (by have := HN.out; omega)⟩
        obtain ⟨_, _, q1, _⟩ := HR1.out.2.2.2.1.2 k y hy
        obtain ⟨g, rfl, k1, _⟩ := row_cell HR1.out.2.2.1 HXL.out q1
        unfold encStr at k1
        have hb : Op.bytesLess y.1 x.1 = false := by rw [bytesLess_eq]; simpa using fun h => hless ⟨y, hy, h⟩
        clear hy q1 hless
        go_wp2_with fail
        go_quiet (fail)
        clear k1 hb h3 h1
      case' neg =>
        have h3 : decide ((k : Int) < (n : Int)) = false := by simp; omega
        clear hless
        go_wp2_with fail
        go_quiet (fail)
        clear h3 h1
      all_goals
        go_wp2_with (at_builtin; refine wpList_append_gen elemFile rfl (.tmp 32) (.tmp 34) rfl 0 _ n xs rfl (HR1.out.2.2.1.alloc _) _ 1 blanks rfl (Cells.lit _ blanks 104 (0, 0) 3 1 rfl) (by intro u hu; simp only [blanks, List.mem_cons, List.not_mem_nil, or_false] at hu; rcases hu with rfl | rfl | rfl <;> rfl) (n + 1) rfl FL (by decide) (Nat.zero_le _) ?_; intro ao6 c6 w6 hown6 hb6 hg6 ho6; clear hb6; have hG0 := HW.out.2.2.1; have hPG := put_grownD (((Turn.refl [] w1).drewN _).alloc _) HR1.out.1 HR1.out.2.1 HR1.out.2.2.2.1 HR1.out.2.2.1 (by have := HW.out.2.1; rw [← HN.out] at this; exact this) (fun q hq => ⟨by rintro rfl; have := (hG0 _ hq).1; rw [HW.out.1] at this; simp at this, fun e => by have := (hG0 _ hq).1; rw [HW.out.1, ← HN.out] at this; simp [e] at this, by have := (hG0 _ hq).2; have := HW.out.2.2.2.2.2.1; omega⟩) hown6 hg6 ho6; have c56 := hPG.1.c5; have e56 := hPG.1.free 5; have HPG := Lib.hid hPG; clear hPG hown6 hg6 ho6 hG0)
        obtain ⟨_, g6, rfl, hgr, hor, hgG, hR7, hP7, hown7, hT7, t7⟩ := HPG.out
        clear HPG c56 e56
        generalize w6.setCell ⟨r, 5, none⟩ (.slice (some ⟨g6, 0, none⟩) (n + 1) c6) = w7 at *
        have t7F : Turn F w1 w7 := by rw [HW.out.1, ← HN.out]; exact t7
        have horF : g6 ∈ F ∨ w1.heap.size ≤ g6 := hor.imp (fun e => by rw [HW.out.1, ← HN.out]; simp [e]) id
        have HR7 := Lib.hid (And.intro hR7 (And.intro hP7 (And.intro hgr (And.intro horF (And.intro hgG t7F)))))
        have HS7 := Lib.hid (And.intro hown7 hT7)
        clear hR7 hP7 hgr hor hgG t7 hown7 hT7 t7F horF
        go_loopw [5] (fun i wr => ∃ p : Nat, k ≤ p ∧ p ≤ n ∧ i = .int .i64 p ∧ Hid (∃ zs, wr.ownsRow 0 104 3 (.slice (some ⟨g6, 0, none⟩) (n + 1) c6) (n + 1) zs ∧ TellR wr G zs (movedE M.fs p) ∧ Turn [g6] w7 wr))
          (fun i _ => (intOf i).toNat)
        case atStart =>
          refine ⟨n, hk, Nat.le_refl _, by simp, Lib.hid ⟨_, HS7.out.1, ?_, Turn.refl _ _⟩⟩
          have e := movedE_start M.fs
          rw [← HN.out] at e
          rw [e]
          exact HS7.out.2
        case round =>
          obtain ⟨p, hkp, hpn, rfl, hrel⟩ := hrel
          obtain ⟨zs, hownp, hTp, tp⟩ := hrel.out
          clear hrel
          have hzl : zs.length = (n + 1) * 3 := by rw [hTp.1, movedE_length _ (by rw [← HN.out]; exact hpn), ← HN.out]
          have c5r := (HR7.out.1.turn tp (by simpa using fun e => HR7.out.2.2.1 e.symm)).c5
          simp only at c5r
          by_cases hlt : k < p
          · obtain ⟨p, rfl⟩ : ∃ p', p = p' + 1 := ⟨p - 1, by omega⟩
            have h3 : (k : Int) < ((p + 1 : Nat) : Int) := by omega
            obtain ⟨y, hy⟩ : ∃ y, M.fs[p]? = some y := ⟨_, List.getElem?_eq_getElem (by have := HN.out; omega)⟩
            obtain ⟨z, hz⟩ : ∃ z, (movedE M.fs (p + 1))[p + 1]? = some z := ⟨_, List.getElem?_eq_getElem (by rw [movedE_length _ (by rw [← HN.out]; exact hpn)]; have := HN.out; omega)⟩
            obtain ⟨ay, cy, q1, q2, q3, q4, q5⟩ := hTp.2 p y (by rw [movedE_below (by rw [← HN.out]; exact hpn) (by omega)]; exact hy)
            obtain ⟨az, cz, z1, z2, z3, _, _⟩ := hTp.2 (p + 1) z hz
            obtain ⟨_, e, k1, _⟩ := row_cell hownp hzl q1
            cases e
            obtain ⟨_, e, k2, _⟩ := row_cell hownp hzl q2
            cases e
            obtain ⟨_, e, k3, _⟩ := row_cell hownp hzl q3
            cases e
            obtain ⟨_, e, m1, f1⟩ := row_cell hownp hzl z1
            cases e
            obtain ⟨_, e, m2, f2⟩ := row_cell hownp hzl z2
            cases e
            obtain ⟨_, e, m3, f3⟩ := row_cell hownp hzl z3
            cases e
            unfold encStr at k1 m1
            have u1 : IntKind.i64.wrap ((p : Int) + 1 - 1) = (p : Int) := by rw [IntKind.wrap_i64]; omega
            have u2 : IntKind.i64.wrap (p : Int) = (p : Int) := by rw [IntKind.wrap_i64]; omega
            have u3 : (0 : Int) ≤ (p : Int) + 1 := by omega
            have u4 : ((p : Int) + 1).toNat = p + 1 := by omega
            have u5 : (p : Int) + 1 < (n : Int) + 1 := by omega
            have u6 : (p : Int) < (n : Int) + 1 := by omega
            have u7 : p < n + 1 := by omega
            have u8 : p + 1 < n + 1 := by omega
            have HX := Lib.hid (And.intro hownp (And.intro hTp (And.intro tp (And.intro hy (And.intro q4 (And.intro q5 (And.intro hzl hpn)))))))
            clear hownp hTp tp hy q1 q2 q3 q4 q5 z1 z2 z3 hz hzl
            go_wp2_with fail
            go_still_tail 14, (by kernel_rfl)
            change wpList _ _ _ _ _ wr.drew
            go_wp2
            obtain ⟨hownp, hTp, tp, hy, q4, q5, hzl, hpn⟩ := HX.out
            have tD : Turn [g6] wr (((wr.drew.setCell ⟨g6, (p + 1) * 3, none⟩ (.string ⟨y.1.toArray⟩)).setCell ⟨g6, (p + 1) * 3 + 1, none⟩ (.slice ay y.2.1.length cy)).setCell ⟨g6, (p + 1) * 3 + 2, none⟩ (.int .i64 (y.2.2 : Nat))) :=
              ((((Turn.refl [g6] wr).drew.set (.inl (by simp)) _ _).set (.inl (by simp)) _ _).set (.inl (by simp)) _ _)
            refine ⟨⟨p, by omega, by omega, rfl, Lib.hid ⟨_, own_setD (own_setD (own_setD (show wr.drew.ownsRow 0 104 3 _ _ _ from hownp) ((p + 1) * 3) (encStr y.1) (by rw [hzl]; omega)) ((p + 1) * 3 + 1) (.slice ay y.2.1.length cy) (by rw [List.length_set, hzl]; omega)) ((p + 1) * 3 + 2) (.int .i64 (y.2.2 : Nat)) (by rw [List.length_set, List.length_set, hzl]; omega), ?_, tp.trans tD⟩⟩, by simp [intOf]⟩
            have hTn := hTp.put (.inr ⟨g6, tD, HR7.out.2.2.2.2.1⟩) (p + 1) y ay cy (q4.turn tD fun hne a n c e => by
              simp only [Value.slice.injEq] at e
              have h5 := q5 (by intro e2; rw [e2] at hne; exact hne rfl) a e.1
              simp only [List.mem_singleton]
              rintro e3
              rw [e3] at h5
              exact HR7.out.2.2.2.2.1 h5) q5
            rw [movedE_step (by rw [← HN.out]; omega) hy] at hTn
            exact hTn
          · obtain rfl : p = k := by omega
            have h3 : ¬ (p : Int) < (p : Int) := by omega
            have u6 : (p : Int) < (n : Int) + 1 := by omega
            have u7 : p < n + 1 := by omega
            have hbxF : w.heap.size ∉ F := by
              intro hm
              have := (HW.out.2.2.2.1).1 w.heap.size hm
              omega
            have hbg : w.heap.size ≠ g6 := by
              intro e
              rcases HR7.out.2.2.2.1 with e2 | e2
              · exact hbxF (by rw [e]; exact e2)
              · have := HW.out.2.2.2.2.2.1; omega
            have hbr := tp.heap (HR7.out.2.2.2.2.2.heap HB.out hbxF) (by simpa using hbg)
            have b0 := cells_of hbr 0 (.string ⟨x.1.toArray⟩) rfl
            have b1 := cells_of hbr 1 (.slice ab x.2.1.length cb) rfl
            have b2 := cells_of hbr 2 (.int .i64 (x.2.2 : Nat)) rfl
            obtain ⟨z, hz⟩ : ∃ z, (movedE M.fs p)[p]? = some z := ⟨_, List.getElem?_eq_getElem (by rw [movedE_length _ (by rw [← HN.out]; exact hpn)]; have := HN.out; omega)⟩
            obtain ⟨az, cz, z1, z2, z3, _, _⟩ := hTp.2 p z hz
            obtain ⟨_, e, m1, f1⟩ := row_cell hownp hzl z1
            cases e
            obtain ⟨_, e, m2, f2⟩ := row_cell hownp hzl z2
            cases e
            obtain ⟨_, e, m3, f3⟩ := row_cell hownp hzl z3
            cases e
            unfold encStr at m1
            have HX := Lib.hid (And.intro hownp (And.intro hTp (And.intro tp (And.intro hzl hpn))))
            clear hownp hTp tp hzl hz z1 z2 z3 hbr hbxF hbg
            go_wp2_with fail
            go_still_tail 7, (by kernel_rfl)
            change wpList _ _ _ _ _ wr.drew
            go_wp2
            go_end0
            obtain ⟨hownp, hTp, tp, hzl, hpn⟩ := HX.out
            obtain ⟨hR7, hP7, hgr, hor, hgG, t7⟩ := HR7.out
            obtain ⟨_, _, _, _, hrx1⟩ := HR1.out
            obtain ⟨hF, hne, hGd, hlt, hrl, e1, hgx, hfit⟩ := HW.out
            have tD : Turn [g6] wr (((wr.drew.setCell ⟨g6, p * 3, none⟩ (.string ⟨x.1.toArray⟩)).setCell ⟨g6, p * 3 + 1, none⟩ (.slice ab x.2.1.length cb)).setCell ⟨g6, p * 3 + 2, none⟩ (.int .i64 (x.2.2 : Nat))) :=
              ((((Turn.refl [g6] wr).drew.set (.inl (by simp)) _ _).set (.inl (by simp)) _ _).set (.inl (by simp)) _ _)
            have t79 := tp.trans tD
            have hGF : ∀ q ∈ G, q ∉ F := fun q hq => (hGd q hq).1
            have hGg : ∀ q ∈ G, q ∉ [g6] := fun q hq hm => hgG (by simp at hm; rw [← hm]; exact hq)
            have hrx9 := (hrx1.turn t7 fun hne a n c e => by
              simp only [Value.slice.injEq] at e
              exact hGF _ (hgx (by intro e2; rw [e2] at hne; exact hne rfl) a e.1)).turn t79 fun hne a n c e => by
              simp only [Value.slice.injEq] at e
              exact hGg _ (hgx (by intro e2; rw [e2] at hne; exact hne rfl) a e.1)
            have hTn := hTp.put (.inr ⟨g6, tD, hgG⟩) p x ab cb hrx9 hgx
            rw [movedE_end x (by rw [← HN.out]; exact hpn), ← HINS.out] at hTn
            have hown9 := own_setD (own_setD (own_setD (show wr.drew.ownsRow 0 104 3 _ _ _ from hownp) (p * 3) (encStr x.1) (by rw [hzl]; omega)) (p * 3 + 1) (.slice ab x.2.1.length cb) (by rw [List.length_set, hzl]; omega)) (p * 3 + 2) (.int .i64 (x.2.2 : Nat)) (by rw [List.length_set, List.length_set, hzl]; omega)
            have hil : (insE x M.fs).length = n + 1 := by rw [insE_length, HN.out]
            have hrF : r ∈ F := by rw [hF]; simp
            have hRF := (HTB.out.mono (by simp)).trans t7
            have hg6l := (hown9.lt g6 rfl).2
            have htot := hRF.trans' (G := [g6]) t79 (by
              intro q hq
              simp only [List.mem_singleton] at hq
              subst hq
              rcases hor with e | e
              · exact .inl e
              · exact .inr (by omega))
            refine ⟨rfl, [r, g6], G, ⟨hfit, { s with fv := .slice (some ⟨g6, 0, none⟩) (n + 1) c6 }, some ⟨g6, 0, none⟩, c6, _, hR7.turn t79 (by simpa using fun e => hgr e.symm), ?_, by rw [hil], by rw [hil]; exact hown9, hTn, by rw [hil]; rfl, ?_, fun q hq => ⟨?_, Nat.lt_of_lt_of_le (hGd q hq).2 htot.size⟩⟩, fun q hq => ?_, fun q hq => .inl hq, htot⟩
            · have hP9 := hP7.turn t79 hGg
              exact ⟨hP9.cap, hP9.cr, hP9.dn, hP9.n, hP9.dw, hP9.fail, hP9.keep, hP9.failG, hP9.keepG, hP9.n0⟩
            · rw [hil]
              simpa [Value.ownBlock] using hgr
            · intro hm
              simp only [List.mem_cons, List.not_mem_nil, or_false] at hm
              rcases hm with rfl | rfl
              · exact hGF _ hq hrF
              · exact hgG hq
            · simp only [List.mem_cons, List.not_mem_nil, or_false] at hq
              rcases hq with rfl | rfl
              · exact .inl hrF
              · exact hor.imp id (fun e => by omega)
end Go.Proofs.YthcdkggkoanjpaaGreatDoor
namespace Go.Proofs.YthcdkggkoanjpaaGreatDoor
open Go.RowKit Go.Maps Go.Sort Go.WideMaps
def RActed (w : World) (r : Nat) (M : MD) (F G : List Nat) (op : Opn) : Int → World → Prop := fun k w' => k = (M.act op).1 ∧ RNext w w' r (M.act op).2 F G []
theorem RD.more {w : World} {r : Nat} {M : MD} {F G : List Nat} (h : RD w r M F G) : RNext w w r M F G [] := ⟨F, G, h, fun k hk => .inl hk, fun k hk => .inl hk, Turn.refl _ _⟩
theorem str_mk (name : ByteArray) : (⟨name.data.toList.toArray⟩ : ByteArray) = name := by cases name; simp
structure Gated (M : MD) (ok : Bool) (er : Int) (M1 : MD) : Prop where
  fs : M1.fs = M.fs
  cap : M1.cap = M.cap
  act : ∀ op : Opn, M.act op = if ok = true then (tell7 M1 (op M.cap M.fs).1, { M1 with fs := (op M.cap M.fs).2 }) else (er, M1)
theorem gated (r : Nat) (M : MD) (F G : List Nat) (w : World) (h : RD w r M F G) (hl : Lim M) : ∃ ok er M1, Hid (Gated M ok er M1) ∧ Hid (Calls Tryz.prog 118 #[.pointer (some ⟨r, 0, none⟩)] w fun e w' => e = .returned (.tuple #[.bool ok, .int .i64 er]) ∧ RD w' r M1 F G ∧ Turn F w w') := by
  obtain ⟨ok, er, M1, hg, hfs, hcap, hfail, hkeep, hact⟩ := gate_cases M
  have hGt := ref_gate r M F G w h hl.n hl.fail
  rw [hg] at hGt
  exact ⟨ok, er, M1, Lib.hid ⟨hfs, hcap, hact⟩, Lib.hid hGt⟩
theorem acted_no {M M1 : MD} {er : Int} {w w' : World} {r : Nat} {F G : List Nat} {op : Opn} (hM : Gated M false er M1) (h : RD w' r M1 F G) (t : Turn F w w') : RActed w r M F G op er w' := by
  unfold RActed
  rw [hM.act, if_neg (by simp)]
  exact ⟨rfl, h.more.after t⟩
theorem acted_yes {M M1 : MD} {er k : Int} {w w' : World} {r : Nat} {F G : List Nat} {op : Opn} {fs' : List Ent} (hM : Gated M true er M1) (hk : (op M.cap M.fs).1 = k) (hfs : (op M.cap M.fs).2 = fs') (h : RNext w w' r { M1 with fs := fs' } F G []) : RActed w r M F G op (tell7 M1 k) w' := by
  unfold RActed
  rw [hM.act, if_pos rfl, hk, hfs]
  exact ⟨rfl, h⟩
theorem acted_same {M M1 : MD} {er k : Int} {w w' : World} {r : Nat} {F G : List Nat} {op : Opn} (hM : Gated M true er M1) (hk : (op M.cap M.fs) = (k, M.fs)) (h : RD w' r M1 F G) (t : Turn F w w') : RActed w r M F G op (tell7 M1 k) w' :=
  acted_yes hM (by rw [hk]) (by rw [hk, ← hM.fs]) (h.more.after t)
theorem ref_create (r : Nat) (M : MD) (F G : List Nat) (name : ByteArray) (w : World) (h : RD w r M F G) (hl : Lim M) (hz : name.size ≤ 1000000) :
    Calls Tryz.prog 74 #[theRef r, .string name] w (Left (RActed w r M F G (opCreate name.data.toList))) := by
  have hll := hl.fs.len
  obtain ⟨ok, er, M1, HM, HGt⟩ := gated r M F G w h hl
  clear h
  unfold theRef
  cases ok with
  | false =>
    go_enter Tryz.func74, Tryz.ntmps74
    go_wp2_with fail
    refine HGt.out.mono ?_
    rintro e w1 ⟨rfl, hD1, t1⟩
    have HD := Lib.hid (acted_no (op := opCreate name.data.toList) HM.out hD1 t1)
    clear hD1 t1 HGt
    go_wp2_with fail
    go_ret
    exact ⟨er, rfl, HD.out⟩
  | true =>
    have hne := name_empty name
    by_cases hk : name.data.toList = []
    · have hne2 : name.toList.isEmpty = true := by rw [hne]; simpa using hk
      have HK := Lib.hid hk
      clear hne hk
      go_enter Tryz.func74, Tryz.ntmps74
      go_wp2_with fail
      refine HGt.out.mono ?_
      rintro e w1 ⟨rfl, hD1, t1⟩
      have HD := Lib.hid (acted_same (op := opCreate name.data.toList) (k := 1) HM.out (by unfold opCreate; rw [if_pos HK.out]) hD1 t1)
      have hT := ref_told r M1 F G 1 w1 hD1
      unfold theRef at hT
      clear hD1 t1 HGt
      go_wp2_with fail
      refine hT.mono ?_
      rintro e w2 ⟨rfl, rfl⟩
      clear hT
      go_wp2_with fail
      go_ret
      exact ⟨_, rfl, HD.out⟩
    · have hne2 : name.toList.isEmpty = false := by rw [hne]; simpa using hk
      have HK := Lib.hid hk
      clear hne hk
      by_cases ha : M.fs.any (isName name.data.toList) = true
      · obtain ⟨pl, hpl⟩ : ∃ pl, placeE name.data.toList M1.fs = pl := ⟨_, rfl⟩
        have hp0 : (0 : Int) ≤ pl := by rw [← hpl, HM.out.fs]; exact place_any.2 ha
        have HPL := Lib.hid hpl
        have HA := Lib.hid ha
        clear hpl ha
        go_enter Tryz.func74, Tryz.ntmps74
        go_wp2_with fail
        refine HGt.out.mono ?_
        rintro e w1 ⟨rfl, hD1, t1⟩
        have HD := Lib.hid (acted_same (op := opCreate name.data.toList) (k := 4) HM.out (by unfold opCreate; rw [if_neg HK.out, if_pos HA.out]) hD1 t1)
        have hT := ref_told r M1 F G 4 w1 hD1
        have hA := ref_at r M1 F G name w1 hD1 (by rw [HM.out.fs]; exact hll)
        rw [HPL.out] at hA
        unfold theRef at hT hA
        clear hD1 t1 HGt
        go_wp2_with fail
        refine hA.mono ?_
        rintro e w2 ⟨rfl, rfl⟩
        clear hA
        go_wp2_with fail
        refine hT.mono ?_
        rintro e w2 ⟨rfl, rfl⟩
        clear hT
        go_wp2_with fail
        go_ret
        exact ⟨_, rfl, HD.out⟩
      · obtain ⟨pl, hpl⟩ : ∃ pl, placeE name.data.toList M1.fs = pl := ⟨_, rfl⟩
        have hp0 : ¬ (0 : Int) ≤ pl := by rw [← hpl, HM.out.fs]; exact fun h => ha (place_any.1 h)
        have HPL := Lib.hid hpl
        have HA := Lib.hid ha
        clear hpl ha
        go_enter Tryz.func74, Tryz.ntmps74
        go_wp2_with fail
        refine HGt.out.mono ?_
        rintro e w1 ⟨rfl, hD1, t1⟩
        have hA := ref_at r M1 F G name w1 hD1 (by rw [HM.out.fs]; exact hll)
        rw [HPL.out] at hA
        have hfitM := hD1.1
        have hP := ref_put r M1 F G (name.data.toList, [], 0) none 0 w1 hD1 (by rw [HM.out.fs]; exact hll) (hfitM.ins (by rw [HM.out.fs]; simpa using HA.out) (Nat.le_refl _) hz) (Reads.nil _) (by intro h; exact absurd rfl h)
        unfold encStr at hP
        rw [str_mk] at hP
        unfold theRef at hP hA
        have HT := Lib.hid t1
        have HP := Lib.hid hP
        clear hD1 t1 HGt hfitM hP
        go_wp2_with fail
        refine hA.mono ?_
        rintro e w2 ⟨rfl, rfl⟩
        clear hA
        go_wp2_with fail
        refine HP.out.mono ?_
        rintro e w3 ⟨rfl, hN⟩
        obtain ⟨F', G', hD3, h3F, h3G, t3⟩ := hN
        have hT := ref_told r _ F' G' 0 w3 hD3
        unfold theRef at hT
        have HN := Lib.hid (acted_yes (op := opCreate name.data.toList) (k := 0) HM.out (by unfold opCreate; rw [if_neg HK.out, if_neg HA.out]) (by unfold opCreate; rw [if_neg HK.out, if_neg HA.out]) (RNext.after HT.out ⟨F', G', by rw [← HM.out.fs]; exact hD3, h3F, h3G, t3⟩))
        clear hD3 h3F h3G t3 HP
        go_wp2_with fail
        refine hT.mono ?_
        rintro e w4 ⟨rfl, rfl⟩
        clear hT
        go_wp2_with fail
        go_ret
        exact ⟨_, rfl, HN.out⟩
end Go.Proofs.YthcdkggkoanjpaaGreatDoor
namespace Go.Proofs.YthcdkggkoanjpaaGreatDoor
open Go.RowKit Go.Maps Go.Sort Go.WideMaps
theorem own_block {g n c : Nat} : (Value.slice (some ⟨g, 0, none⟩) n c).ownBlock = some g := rfl
set_option maxRecDepth 100000 in
set_option maxHeartbeats 2000000 in
theorem ref_sync (r : Nat) (M : MD) (F G : List Nat) (name : ByteArray) (w : World) (h : RD w r M F G) (hl : Lim M) :
    Calls Tryz.prog 78 #[theRef r, .string name] w (Left (RActed w r M F G (opSync name.data.toList))) := by
  have hll := hl.fs.len
  have hri := h.1.rising
  obtain ⟨ok, er, M1, HM, HGt⟩ := gated r M F G w h hl
  clear h
  unfold theRef
  cases ok with
  | false =>
    go_enter Tryz.func78, Tryz.ntmps78
    go_wp2_with fail
    refine HGt.out.mono ?_
    rintro e w1 ⟨rfl, hD1, t1⟩
    have HD := Lib.hid (acted_no (op := opSync name.data.toList) HM.out hD1 t1)
    clear hD1 t1 HGt
    go_wp2_with fail
    go_ret
    exact ⟨er, rfl, HD.out⟩
  | true =>
    cases hf : M.fs.find? (isName name.data.toList) with
    | none =>
      have HPL : Hid (placeE name.data.toList M1.fs = -1) := Lib.hid (by rw [HM.out.fs]; exact place_none hf)
      have HF := Lib.hid hf
      clear hf
      go_enter Tryz.func78, Tryz.ntmps78
      go_wp2_with fail
      refine HGt.out.mono ?_
      rintro e w1 ⟨rfl, hD1, t1⟩
      have HD := Lib.hid (acted_same (op := opSync name.data.toList) (k := 3) HM.out (by unfold opSync; rw [HF.out]) hD1 t1)
      have hT := ref_told r M1 F G 3 w1 hD1
      have hA := ref_at r M1 F G name w1 hD1 (by rw [HM.out.fs]; exact hll)
      rw [HPL.out] at hA
      unfold theRef at hT hA
      clear hD1 t1 HGt
      go_wp2_with fail
      refine hA.mono ?_
      rintro e w2 ⟨rfl, rfl⟩
      clear hA
      go_wp2_with fail
      refine hT.mono ?_
      rintro e w2 ⟨rfl, rfl⟩
      clear hT
      go_wp2_with fail
      go_ret
      exact ⟨_, rfl, HD.out⟩
    | some x =>
      obtain ⟨i, hi, hx, hset, her⟩ := place_some hri hf
      have HPL : Hid (placeE name.data.toList M1.fs = i) := Lib.hid (by rw [HM.out.fs]; exact hi)
      have hi0 : ¬ ((i : Nat) : Int) < 0 := by omega
      have hil := (List.getElem?_eq_some_iff.1 hx).1
      have HF := Lib.hid (And.intro hf (And.intro (hset (fun x => (x.1, x.2.1, x.2.1.length))) hx))
      have i1 : ((i : Nat) : Int) < (M1.fs.length : Int) := by rw [HM.out.fs]; omega
      clear hf hi hx hset her hil
      go_enter Tryz.func78, Tryz.ntmps78
      go_wp2_with fail
      refine HGt.out.mono ?_
      rintro e w1 ⟨rfl, hD1, t1⟩
      have hA := ref_at r M1 F G name w1 hD1 (by rw [HM.out.fs]; exact hll)
      rw [HPL.out] at hA
      unfold theRef at hA
      obtain ⟨hfit, s, ao, c, xs, hR, hP, hv, hown, hTe, hFF, hnn, hGd⟩ := hD1
      have hxi : M1.fs[i]? = some x := by rw [HM.out.fs]; exact HF.out.2.2
      obtain ⟨ab, cb, q1, q2, q3, hrb, hgb⟩ := hTe.2 i x hxi
      obtain ⟨g, rfl, k2, _⟩ := row_cell hown (by rw [hTe.1]) q2
      obtain ⟨_, e, k3, f3⟩ := row_cell hown (by rw [hTe.1]) q3
      cases e
      have c5 := hR.c5
      rw [hv] at c5
      have hgw := (hown.lt g rfl).2
      have hgr : g ≠ r := by rintro rfl; exact hnn rfl
      have hgG : g ∉ G := fun hm => (hGd g hm).1 (by rw [hFF]; simp [own_block])
      have tD : Turn [g] w1 (w1.drew.setCell ⟨g, i * 3 + 2, none⟩ (.int .i64 (x.2.1.length : Nat))) := (Turn.refl [g] w1).drew.set (.inl (by simp)) _ _
      have hxl : i * 3 + 2 < xs.length := by have := (List.getElem?_eq_some_iff.1 q3).1; omega
      have hN := RD.filed (k := i) (y := (x.1, x.2.1, x.2.1.length)) hR hP hv rfl (by rw [hFF]; rfl) hgr hgw hGd (by
        rw [HM.out.fs, HF.out.2.1, ← HM.out.fs]
        exact hfit.upd _ (fun _ => rfl) fun y hy _ => Nat.le_refl _) tD (own_setD (show w1.drew.ownsRow 0 104 3 _ _ _ from hown) (i * 3 + 2) (.int .i64 (x.2.1.length : Nat)) hxl) (hTe.synced tD hgG hxi x.2.1.length) (fun q hq => hq) (fun q hq => .inl hq) (fun q hq => Nat.lt_of_lt_of_le (hGd q hq).2 tD.size)
      obtain ⟨F2, G2, hD2, h2F, h2G, t2⟩ := hN
      rw [HM.out.fs, HF.out.2.1] at hD2
      have HD2 := Lib.hid (And.intro hD2 (acted_yes (op := opSync name.data.toList) (k := 0) HM.out (by unfold opSync; rw [HF.out.1]) (by unfold opSync; rw [HF.out.1]) (RNext.after t1 ⟨F2, G2, hD2, h2F, h2G, t2⟩)))
      clear hfit hR hP hv hown hTe hFF hnn hGd t1 HGt q1 q2 q3 hrb hgb hxi hgw hgr hgG tD hxl hD2 h2F h2G t2
      go_wp2_with fail
      refine hA.mono ?_
      rintro e w2 ⟨rfl, rfl⟩
      clear hA
      go_wp2_with fail
      go_still_tail 16, (by kernel_rfl)
      change wpList _ _ _ _ _ w1.drew
      have hT := ref_told r _ F2 G2 0 _ HD2.out.1
      unfold theRef at hT
      go_wp2_with fail
      refine hT.mono ?_
      rintro e w2 ⟨rfl, hw2⟩
      have HQ := Lib.hid HD2.out.2
      rw [hw2] at HQ
      clear hT HD2 hw2
      go_wp2_with fail
      go_ret
      exact ⟨_, rfl, HQ.out⟩
end Go.Proofs.YthcdkggkoanjpaaGreatDoor
