/- 'write': a writing call through the plan. Numbers and types by name. -/
import Derived.Test.YtmpjjnjggiipjaaCre
namespace Go.Proofs.Ytmpjjnjggiipjaa
open Go.RowKit Go.Maps Go.Sort Go.WideMaps

/-- What a closure that write calls leaves: an error's number, and the rest. -/
def Left (R : Int → World → Prop) (e : Ending) (w : World) : Prop := ∃ k : Int, e = .returned (.int .i64 k) ∧ R k w

/-- Cells of the disk's own block turn: the counter, the flag, the size. -/
theorem Rep.own {w w' : World} {base b : Nat} {S : DM} {s : DS} (h : Rep w base b S s) (t : Turn [b] w w') (ca sz : Int) (dw : Bool) (hd : DiskC w' b { s with ca := ca, dw := dw, sz := sz }) :
    Rep w' base b { S with ca := ca, dw := dw } { s with ca := ca, dw := dw, sz := sz } := by
  have hb : b ∈ foot b S := by simp [foot]
  obtain ⟨ao, c, ao', c', h1, h2, h3, h4, h5, h6, h7, h8⟩ := h.lists
  exact {
    disk := hd
    cap := h.cap
    cr := h.cr
    ca := rfl
    dn := h.dn
    dw := rfl
    fs := h.fs
    lists := ⟨ao, c, ao', c', h1, h2, owns_turn h3 t (fun g hg => by
        have := h7 g (h5.symm.trans hg); simp only [List.mem_singleton]; rintro rfl; exact this hb), owns_turn h4 t (fun g hg => by
        have := h8 g (h6.symm.trans hg); simp only [List.mem_singleton]; rintro rfl; exact this hb), h5, h6, h7, h8⟩
    mapN := h.mapN
    mapS := fun m hm => (h.mapS m hm).keep t (by simp only [List.mem_singleton]; rintro rfl; exact h.apart1 _ hm rfl)
    files := fun f hf => (h.files f hf).keep t (fun k hk => by simp only [List.mem_singleton]; rintro rfl; exact (h.apart2 f hf).1 hk)
    apart1 := h.apart1
    apart2 := h.apart2
    apart3 := h.apart3
    low := h.low
    names := h.names
    sorted := h.sorted }

theorem Rep.count {w : World} {base b : Nat} {S : DM} {s : DS} (h : Rep w base b S s) (x : Int) : Rep (w.setCell ⟨b, 7, none⟩ (.int .i64 x)) base b { S with ca := x } { s with ca := x } := by
  have := h.own ((Turn.refl [b] w).set (.inl (by simp)) 7 (.int .i64 x)) x s.sz s.dw (h.disk.set7 x)
  rw [h.dw] at this
  have e : ({ s with ca := x, dw := S.dw, sz := s.sz } : DS) = { s with ca := x } := by rw [← h.dw]
  rw [e] at this
  exact this

theorem Rep.fails {w : World} {base b : Nat} {S : DM} {s : DS} (h : Rep w base b S s) (hfl : S.fail.length < 1000000) :
    Calls Try.prog 51 #[.pointer (some ⟨b, 0, none⟩)] w fun e w' => e = .returned (.bool (S.fail.contains S.ca)) ∧ ∃ n, w' = w.drewN n := by
  obtain ⟨ao, c, ao', c', h1, h2, h3, h4, h5, h6, h7, h8⟩ := h.lists
  have := fails_any b s base ao c S.fail w h.disk h1 h3 h.sorted (by omega)
  rw [h.ca] at this
  exact this

set_option maxRecDepth 100000 in
/-- The call is made: no crash, no failure. -/
theorem write_run (base b g : Nat) (cb : Array Value) (S : DM) (s : DS) (R : Int → World → Prop) (w : World) (hR : Rep w base b S s) (hdw : S.dw = false) (hcr : S.ca + 1 ≠ S.cr) (hfail : S.fail.contains (S.ca + 1) = false) (hca0 : 0 ≤ S.ca) (hca1 : S.ca < 1000000) (hfl : S.fail.length < 1000000)
    (hent : ∀ (args : Array Value) (w : World), (callFunc g args).run Try.prog w = .ok (.enter g args) w)
    (hcl : ∀ w1, Rep w1 base b { S with ca := S.ca + 1 } { s with ca := S.ca + 1 } → Turn [b] w w1 → Calls Try.prog g cb w1 (Left R)) :
    Calls Try.prog 32 #[theDisk b, .func (.func g) #[] cb] w (Left R) := by
  have c8 := hR.disk.c8
  have c7 := hR.disk.c7
  have c3 := hR.disk.c3
  have c2 := hR.disk.c2
  have e7 := hR.disk.free 7
  rw [hR.dw, hdw] at c8
  rw [hR.ca] at c7
  rw [hR.cr] at c2
  have hb1 : ((S.ca + 1 : Int) == S.cr) = false := by simpa using hcr
  have hR1 := hR.count (S.ca + 1)
  have t1 : Turn [b] w (w.setCell ⟨b, 7, none⟩ (.int .i64 (S.ca + 1))) := (Turn.refl [b] w).set (.inl (by simp)) 7 _
  have HR := Lib.hid (And.intro hR1 t1)
  have HF := Lib.hid hfail
  have HL := Lib.hid hfl
  have HC := Lib.hid hcl
  unfold theDisk
  clear hR hcl hR1 t1 hfail hfl hcr
  go_enter Try.func32, Try.ntmps32
  go_wp2
  go_step3
  go_wp2_with fail
  go_step3
  go_wp2_with fail
  obtain ⟨hR1, t1⟩ := HR.out
  generalize w.setCell ⟨b, 7, none⟩ (.int .i64 (S.ca + 1)) = w1 at *
  clear HR c8 c7 c3 c2 e7
  have c7 := hR1.disk.c7
  have c2 := hR1.disk.c2
  rw [hR1.ca] at c7
  rw [hR1.cr] at c2
  have HR := Lib.hid (And.intro hR1 t1)
  clear hR1 t1
  simp only at c7 c2
  go_quiet (fail)
  go_wp2_with fail
  refine ((HR.out.1.new ((Turn.refl [] w1).drewN nq)).fails HL.out).mono ?_
  rintro e w2 ⟨rfl, n2, rfl⟩
  rw [show ({ S with ca := S.ca + 1 } : DM).fail.contains ({ S with ca := S.ca + 1 } : DM).ca = false from HF.out]
  rw [World.drewN_drewN]
  have HT : Hid (Rep (w1.drewN (nq + n2)) base b { S with ca := S.ca + 1 } { s with ca := S.ca + 1 } ∧ Turn [b] w (w1.drewN (nq + n2))) := Lib.hid ⟨HR.out.1.new ((Turn.refl [] w1).drewN _), HR.out.2.drewN _⟩
  generalize w1.drewN (nq + n2) = w2 at *
  clear HR c7 c2 HL HF hb1 hca0 hca1
  go_wp2_with fail
  refine (HC.out w2 HT.out.1 HT.out.2).mono ?_
  rintro e w3 ⟨k, rfl, hk⟩
  have HK := Lib.hid hk
  clear hk HC HT hent
  go_wp2_with fail
  rw [Exit.noGoto_ret]
  go_ret
  exact ⟨k, rfl, HK.out⟩

end Go.Proofs.Ytmpjjnjggiipjaa
