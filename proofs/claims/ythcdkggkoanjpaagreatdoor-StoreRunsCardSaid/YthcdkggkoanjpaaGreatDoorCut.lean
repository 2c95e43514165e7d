/- Cut, that is carried out or refused. Numbers and types by name. -/
import Derived.Test.YthcdkggkoanjpaaGreatDoorRea
import Derived.Test.YthcdkggkoanjpaaGreatDoorFil
import Derived.Test.YthcdkggkoanjpaaGreatDoorAp2
namespace Go.Proofs.YthcdkggkoanjpaaGreatDoor
open Go.RowKit Go.Maps Go.Sort Go.WideMaps
theorem info_file : (Tryz.prog.info? 104).map (fun i => (i.zero, i.size, i.bytes)) = some (some (.agg #[.string ⟨#[]⟩, .slice none 0 0, .int .i64 0]), 3, 48) := by kernel_rfl
def fileOf (files : List FM) (x : List UInt8) : FM := (files.find? (named x)).getD ⟨[], 0, none, [], 0⟩
def Told (w : World) (base : Nat) (row : Option Nat) (fs : List FM) (xs : List Value) : Prop :=
  xs.length = fs.length * 3 ∧ ∀ j f, fs[j]? = some f → ∃ ao c, xs[j * 3]? = some (encStr f.name) ∧ xs[j * 3 + 1]? = some (.slice ao f.bytes.length c) ∧ xs[j * 3 + 2]? = some (.int .i64 f.sy) ∧
    w.ownsRow base 5 1 (.slice ao f.bytes.length c) f.bytes.length (bv f.bytes) ∧ ∀ g, (Value.slice ao f.bytes.length c).ownBlock = some g → row ≠ some g
theorem Told.nil (w : World) (base : Nat) (row : Option Nat) : Told w base row [] [] := ⟨rfl, fun j f h => by cases h⟩
theorem Told.next {w w2 w3 : World} {base : Nat} {row row3 : Option Nat} {fs : List FM} {xs : List Value} (h : Told w base row fs xs) (f : FM) (ao : Option Addr) (c : Nat)
    (hg2 : w.grownBy w2 none) (h2 : w2.ownsRow w.heap.size 5 1 (.slice ao f.bytes.length c) f.bytes.length (bv f.bytes)) (o : Obj) (hg3 : (w2.alloc o).grownBy w3 row) (hrow : row3 = row ∨ row3 = some (w2.alloc o).heap.size) (hrl : ∀ g, row = some g → g < w.heap.size) (hbase : base ≤ w.heap.size) :
    Told w3 base row3 (fs ++ [f]) (xs ++ [encStr f.name, .slice ao f.bytes.length c, .int .i64 f.sy]) := by
  obtain ⟨hl, hx⟩ := h
  have t3 : Turn row.toList (w2.alloc o) w3 := Turn.of_grown hg3 (by intro k e; simp [e])
  have ta : Turn [] w2 (w2.alloc o) := (Turn.refl [] w2).alloc o
  refine ⟨by simp [hl, Nat.add_mul], fun j g hj => ?_⟩
  by_cases hjl : j < fs.length
  · rw [List.getElem?_append_left hjl] at hj
    obtain ⟨ao', c', e1, e2, e3, h4, h5⟩ := hx j g hj
    refine ⟨ao', c', by rw [List.getElem?_append_left (by omega)]; exact e1, by rw [List.getElem?_append_left (by omega)]; exact e2, by rw [List.getElem?_append_left (by omega)]; exact e3, ?_, ?_⟩
    · refine owns_turn (owns_turn (owns_turn h4 (Turn.of_none (F := []) hg2) (by simp)) ta (by simp)) t3 (fun k hk => ?_)
      have := h5 k hk
      simpa using this
    · intro k hk
      rcases hrow with e | e
      · rw [e]; exact h5 k hk
      · rw [e]
        have h6 := (h4.lt k hk).2
        have h7 := hg2.size
        simp
        omega
  · have hjl2 : j = fs.length := by
      have := (List.getElem?_eq_some_iff.1 hj).1
      simp at this
      omega
    subst hjl2
    rw [List.getElem?_append_right (Nat.le_refl _)] at hj
    simp at hj
    subst hj
    have hne : ∀ k, (Value.slice ao f.bytes.length c).ownBlock = some k → row ≠ some k := fun k hk e => by
      have h6 := (h2.lt k hk).1
      have := hrl k e
      omega
    refine ⟨ao, c, ?_, ?_, ?_, owns_base (owns_turn (owns_turn h2 ta (by simp)) t3 (fun k hk => by simpa using hne k hk)) hbase, ?_⟩
    · rw [List.getElem?_append_right (by omega), hl]; simp
    · rw [List.getElem?_append_right (by omega), hl, show fs.length * 3 + 1 - fs.length * 3 = 1 from by omega]; rfl
    · rw [List.getElem?_append_right (by omega), hl, show fs.length * 3 + 2 - fs.length * 3 = 2 from by omega]; rfl
    · intro k hk
      rcases hrow with e | e
      · rw [e]; exact hne k hk
      · rw [e]
        have h6 := (h2.lt k hk).2
        simp
        omega
theorem step_append_file {ops : Array Oper} {o : Oper} {a : Act} {w2 : World} {K : Act → World → Prop} {Q : Exit → Act → World → Prop} {E : Prop} (hgd : o.guard = none) (s x : Operand)
    (ho : o.op = .call { callee := .builtin .append, args := #[s, x], argTypes := #[77, 77] })
    (base : Nat) (v : Value) (n : Nat) (xs : List Value) (hs : a.eval s = v) (hown : w2.ownsRow base 104 3 v n xs) (nm : List UInt8) (ao : Option Addr) (m c : Nat) (sy : Int) (hx : a.eval x = .slice (some ⟨w2.heap.size, 0, none⟩) 1 1)
    (h63 : Hid (n + 1 ≤ maxLen)) (hbytes : Hid ((n + 1) * 48 ≤ 140737488355328)) (hbase : base ≤ w2.heap.size)
    (h : ∀ g cap w', w'.ownsRow base 104 3 (.slice (some ⟨g, 0, none⟩) (n + 1) cap) (n + 1) (xs ++ [encStr nm, .slice ao m c, .int .i64 sy]) → (w2.alloc (.cells #[encStr nm, .slice ao m c, .int .i64 sy] 104)).grownBy w' v.ownBlock → (v.ownBlock = some g ∨ g = (w2.alloc (.cells #[encStr nm, .slice ao m c, .int .i64 sy] 104)).heap.size) →
      K (a.put o.dst (.slice (some ⟨g, 0, none⟩) (n + 1) cap)) w') :
    if Region.wanted o (yielded ops a.tmps) = true then Oper.wp Tryz.prog o a (w2.alloc (.cells #[encStr nm, .slice ao m c, .int .i64 sy] 104)) K Q else E := by
  obtain ⟨i0, hi, hz0, hz1, hz2⟩ := info_parts info_file
  refine step_append_lies _ hgd s x 77 ho base 104 i0 (.agg #[.string ⟨#[]⟩, .slice none 0 0, .int .i64 0]) 3 48 Tryz.underlying77 hi hz0 hz1 hz2 rfl (by decide) v n xs hs (hown.alloc _) ⟨w2.heap.size, 0, none⟩ 1 1 [encStr nm, .slice ao m c, .int .i64 sy] hx rfl ?_ ?_ (by decide) h63.out hbytes.out (by simp; omega) _ rfl ?_
  · exact World.news_of_block (heap_alloc_new w2 (.cells #[encStr nm, .slice ao m c, .int .i64 sy] 104))
  · intro u hu
    simp only [List.mem_cons, List.not_mem_nil, or_false] at hu
    rcases hu with rfl | rfl | rfl <;> rfl
  · intro g cap w' h1 h2 h3 _
    exact h g cap w' h1 h2 h3
theorem grown_of_turn {w w' : World} (t : Turn [] w w') : w.grownBy w' none := ⟨t.os, t.tape, t.output, t.size, fun k hk _ => t.block k hk (by simp)⟩
theorem files_close {w1 wr w2 w3 : World} {base k : Nat} {files : List FM} {ss : List (List UInt8)} {f : FM} {nm : List UInt8} {aol : Option Addr} {cl : Nat} {xs : List Value} {ao2 : Option Addr} {c2 g3 cap3 n1 : Nat}
    (hlt : k < ss.length) (hnm : ss.getD k [] = nm) (hf : files.find? (named nm) = some f) (hfn : f.name = nm) (hl1 : wr.ownsRow base 104 3 (.slice aol k cl) k xs) (hl2 : Told wr base (Value.slice aol k cl).ownBlock ((ss.take k).map (fileOf files)) xs) (hl3 : w1.grownBy wr none)
    (hl4 : ∀ g, (Value.slice aol k cl).ownBlock = some g → w1.heap.size ≤ g) (hbs : base ≤ wr.heap.size) (hg2 : (wr.drewN n1).grownBy w2 none) (hown2 : w2.ownsRow (wr.drewN n1).heap.size 5 1 (.slice ao2 f.bytes.length c2) f.bytes.length (bv f.bytes))
    (h31 : w3.ownsRow base 104 3 (.slice (some ⟨g3, 0, none⟩) (k + 1) cap3) (k + 1) (xs ++ [encStr nm, .slice ao2 f.bytes.length c2, .int .i64 f.sy]))
    (h32 : (w2.alloc (.cells #[encStr nm, .slice ao2 f.bytes.length c2, .int .i64 f.sy] 104)).grownBy w3 (Value.slice aol k cl).ownBlock)
    (h33 : (Value.slice aol k cl).ownBlock = some g3 ∨ g3 = (w2.alloc (.cells #[encStr nm, .slice ao2 f.bytes.length c2, .int .i64 f.sy] 104)).heap.size) :
    ∃ ao c xs', Value.slice (some ⟨g3, 0, none⟩) (k + 1) cap3 = .slice ao (k + 1) c ∧ w3.ownsRow base 104 3 (.slice ao (k + 1) c) (k + 1) xs' ∧ Told w3 base (Value.slice ao (k + 1) c).ownBlock ((ss.take (k + 1)).map (fileOf files)) xs' ∧ w1.grownBy w3 none ∧ ∀ g, (Value.slice ao (k + 1) c).ownBlock = some g → w1.heap.size ≤ g := by
  have hg2' : wr.grownBy w2 none := ⟨hg2.os, hg2.tape, hg2.output, hg2.size, hg2.block⟩
  have hs1 := hl3.size
  have hs2 := hg2'.size
  refine ⟨_, _, _, rfl, h31, ?_, ?_, ?_⟩
  · have e1 : (ss.take (k + 1)).map (fileOf files) = (ss.take k).map (fileOf files) ++ [f] := by
      rw [List.take_succ_eq_append_getElem hlt, List.map_append]
      have : ss[k] = nm := by rw [← hnm, List.getD_eq_getElem?_getD, List.getElem?_eq_getElem hlt]; rfl
      simp [this, fileOf, hf]
    rw [e1]
    have := hl2.next f ao2 c2 hg2' hown2 _ h32 (row3 := some g3) (h33.imp (fun e => e.symm) (fun e => by rw [e])) (fun g hg => (hl1.lt g hg).2) hbs
    rw [hfn] at this
    exact this
  · refine grown_of_turn ((Turn.of_none hl3).trans ((Turn.of_none hg2').trans ?_) |>.trans' (G := (Value.slice aol k cl).ownBlock.toList) (b := w2.alloc (.cells #[encStr nm, .slice ao2 f.bytes.length c2, .int .i64 f.sy] 104)) (Turn.of_grown h32 (by intro j e; simp [e])) (fun x hx => .inr (hl4 x (by simpa using hx))))
    exact (Turn.refl [] w2).alloc _
  · intro g hg
    have hg' : g3 = g := by simpa [Value.ownBlock] using hg
    subst hg'
    rcases h33 with e | e
    · exact hl4 _ e
    · rw [e]; simp; omega
set_option maxRecDepth 100000 in
set_option maxHeartbeats 1000000 in
theorem files_any (base b : Nat) (S : DM) (s : DS) (w : World) (hR : Rep w base b S s) (htot : total S.files < 1000000000) (hlen : S.files.length < 1000000) (hcapl : ∀ f ∈ S.files, f.name.length ≤ maxLen) :
    Calls Tryz.prog 54 #[theDisk b] w fun e w' => ∃ ao c xs, e = .returned (.slice ao S.files.length c) ∧ w'.ownsRow w.heap.size 104 3 (.slice ao S.files.length c) S.files.length xs ∧
      Told w' w.heap.size (Value.slice ao S.files.length c).ownBlock ((sortedNames S.files).map (fileOf S.files)) xs ∧ w.grownBy w' none := by
  have hlt := hR.lt
  have hP := names_rep base b S s w hR hlen
  obtain ⟨ss, hss⟩ : ∃ ss, sortedNames S.files = ss := ⟨_, rfl⟩
  rw [hss] at hP
  have hmem : ∀ x ∈ ss, (∃ f ∈ S.files, f.name = x) ∧ x.length ≤ maxLen := by
    intro x hx
    have := (sortedNames_perm S.files).mem_iff.1 (hss ▸ hx)
    simp only [List.mem_map] at this
    obtain ⟨f, hf, rfl⟩ := this
    exact ⟨⟨f, hf, rfl⟩, hcapl f hf⟩
  have hssl : ss.length = S.files.length := by
    have := (sortedNames_perm S.files).length_eq
    rw [hss] at this
    simpa using this
  rw [hss, ← hssl]
  have hlen2 : ss.length < 1000000 := by omega
  unfold theDisk at hP
  unfold theDisk
  have HP := Lib.hid hP
  have HR := Lib.hid (And.intro hR (And.intro hmem hlt))
  clear hP hss hR hmem hlt hssl hcapl hlen
  go_enter Tryz.func54, Tryz.ntmps54
  go_wp2_with fail
  refine HP.out.mono ?_
  rintro e w1 ⟨ao, c, rfl, hrow, hg⟩
  have HG := Lib.hid (And.intro hg hrow)
  clear HP hg hrow
  go_wp2_with fail
  go_loopw [3, 12] (fun l i wr => ∃ k : Nat, k ≤ ss.length ∧ i = .int .i64 k ∧ Hid (∃ ao c xs, l = .slice ao k c ∧ wr.ownsRow w.heap.size 104 3 (.slice ao k c) k xs ∧ Told wr w.heap.size (Value.slice ao k c).ownBlock ((ss.take k).map (fileOf S.files)) xs ∧ w1.grownBy wr none ∧ (∀ g, (Value.slice ao k c).ownBlock = some g → w1.heap.size ≤ g)))
    (fun _ i _ => ss.length - (intOf i).toNat)
  case atStart =>
    exact ⟨0, Nat.zero_le _, rfl, none, 0, [], rfl, World.ownsRow_nil _ _ _ _, by simpa using Told.nil _ _ _, grown_refl _ _, fun g hg => by cases hg⟩
  case round =>
    obtain ⟨k, hk, rfl, hrel⟩ := hrel
    obtain ⟨aol, cl, xs, rfl, hl1, hl2, hl3, hl4⟩ := hrel.out
    by_cases hlt2 : k < ss.length
    · obtain ⟨hR, hmem, hlt⟩ := HR.out
      have t1 : Turn [] w wr := (Turn.of_none HG.out.1).trans (Turn.of_none hl3)
      have hRk := hR.new t1
      have hrowk := owns_turn HG.out.2 (Turn.of_none (F := []) hl3) (by simp)
      obtain ⟨g, rfl, hcell⟩ := own_strs hrowk hlt2
      have hnmem : ss.getD k [] ∈ ss := by
        rw [List.getD_eq_getElem?_getD, List.getElem?_eq_getElem hlt2]; simp
      obtain ⟨f, hf⟩ := find_of_name (files' := S.files) rfl (hmem _ hnmem).1
      obtain ⟨hfm, hfn⟩ := find_mem hf
      obtain ⟨vf, hfc, hread⟩ := (hRk.files f hfm).reads
      have hnl := (hmem _ hnmem).2
      have hftot := le_total hfm
      generalize hnm : ss.getD k [] = nm at *
      have hlk := hRk.look ⟨nm.toArray⟩ (by simpa [ByteArray.size] using hnl)
      have hpt : ptrOf S.files nm = some ⟨f.blk, 0, none⟩ := by simp [ptrOf, hf]
      simp only at hlk
      rw [hpt] at hlk
      have c5 := hRk.disk.c5
      have f0 := hfc.c0
      have f1 := hfc.c1
      have hcopy := copied_byte vf f.bytes
      have HN := Lib.hid (show f.bytes.length ≤ 140737488355328 by omega)
      have hvs : ∃ aov nv cv, vf = .slice aov nv cv := by obtain ⟨aov, cv, rfl, _⟩ := hread; exact ⟨_, _, _, rfl⟩
      obtain ⟨aov, nv, cv, rfl⟩ := hvs
      have HM := Lib.hid (show k + 1 ≤ maxLen by unfold maxLen; omega)
      have HY := Lib.hid (show (k + 1) * 48 ≤ 140737488355328 by omega)
      have hbs : w.heap.size ≤ wr.heap.size := t1.size
      have HK := Lib.hid (And.intro hnm (And.intro hf (And.intro hfn (And.intro hl2 (And.intro hl3 hl4)))))
      clear hR hmem hlt t1 hRk hrowk hnmem hfm hfc hftot hnm hnl hpt hf hfn hcopy hl2 hl3 hrel
      go_wp2_with fail
      go_region_law (first | (refine step_append_file rfl (.tmp 22) (.tmp 34) rfl w.heap.size (.slice aol k cl) k xs (by simp [Act.eval]) hL2 nm ao2 f.bytes.length c2 f.sy (by simp [Act.eval]) HM HY (Nat.le_trans hbs hg2.size) ?_; intro g3 cap3 w3 h31 h32 h33) | (go_simp; go_at_call 59; refine (copied_byte _ f.bytes _ (hread.turn ((Turn.refl [] wr).drewN 1) (by simp)) HN.out).mono ?_; rintro e w2 ⟨ao2, c2, rfl, hown2, hg2⟩; have f1' := hg2.cell (a := ⟨f.blk, 1, none⟩) f1 (by simp); have hL2 : w2.ownsRow w.heap.size 104 3 (.slice aol k cl) k xs := owns_turn hl1 ⟨hg2.os, hg2.tape, hg2.output, hg2.size, fun k hk _ => hg2.block k hk (by simp)⟩ (F := []) (by simp)))
      all_goals
        obtain ⟨hnm, hf, hfn, hl2, hl3, hl4⟩ := HK.out
        have HC := Lib.hid (files_close hlt2 hnm hf hfn hl1 hl2 hl3 hl4 hbs hg2 hown2 h31 h32 h33)
        clear hnm hf hfn hl1 hl2 hl3 hl4 hbs hg2 hown2 h31 h32 h33 HK f1' hL2 hread f0 f1 c5 hlk hcell
        go_wp2
        go_roundw
        case rel => exact ⟨k + 1, by omega, by go_num, HC.out⟩
        case measure => simp [intOf]; omega
    · obtain rfl : k = ss.length := by omega
      have HE : Hid (∃ ao c xs', Ending.returned (.slice aol ss.length cl) = Ending.returned (.slice ao ss.length c) ∧ wr.ownsRow w.heap.size 104 3 (.slice ao ss.length c) ss.length xs' ∧ Told wr w.heap.size (Value.slice ao ss.length c).ownBlock (ss.map (fileOf S.files)) xs' ∧ w.grownBy wr none) :=
        Lib.hid ⟨aol, cl, xs, rfl, hl1, by simpa using hl2, grown_trans HG.out.1 hl3⟩
      clear hl1 hl2 hl3 hl4 hrel
      go_wp2_with fail
      go_ret
      exact HE.out
end Go.Proofs.YthcdkggkoanjpaaGreatDoor
namespace Go.Proofs.YthcdkggkoanjpaaGreatDoor
open Go.RowKit Go.Maps Go.Sort Go.WideMaps
theorem calls_rep (base b : Nat) (S : DM) (s : DS) (w : World) (hR : Rep w base b S s) :
    Calls Tryz.prog 55 #[theDisk b] w fun e w' => e = .returned (.int .i64 S.ca) ∧ w = w' := by
  have c7 := hR.disk.c7
  rw [hR.ca] at c7
  clear hR
  unfold theDisk
  go_enter Tryz.func55, Tryz.ntmps55
  go_wp2
  go_ret
  exact ⟨rfl, rfl⟩
end Go.Proofs.YthcdkggkoanjpaaGreatDoor
namespace Go.Proofs.YthcdkggkoanjpaaGreatDoor
open Go.RowKit Go.Maps Go.Sort Go.WideMaps
def Left (R : Int → World → Prop) (e : Ending) (w : World) : Prop := ∃ k : Int, e = .returned (.int .i64 k) ∧ R k w
theorem Rep.own {w w' : World} {base b : Nat} {S : DM} {s : DS} (h : Rep w base b S s) (t : Turn [b] w w') (ca sz : Int) (dw : Bool) (hd : DiskC w' b { s with ca := ca, dw := dw, sz := sz }) :
    Rep w' base b { S with ca := ca, dw := dw } { s with ca := ca, dw := dw, sz := sz } := by
  have hb : b ∈ foot b S := by simp [foot]
  obtain ⟨ao, c, ao', c', h1, h2, h3, h4, h5, h6, h7, h8⟩ := h.lists
  exact {
    disk := hd
    cap := h.cap
    cr := h.cr
    ca := rfl
    dn := h.dn
    dw := rfl
    fs := h.fs
    lists := ⟨ao, c, ao', c', h1, h2, owns_turn h3 t (fun g hg => by
        have := h7 g (h5.symm.trans hg); simp only [List.mem_singleton]; rintro rfl; exact this hb), owns_turn h4 t (fun g hg => by
        have := h8 g (h6.symm.trans hg); simp only [List.mem_singleton]; rintro rfl; exact this hb), h5, h6, h7, h8⟩
    mapN := h.mapN
    mapS := fun m hm => (h.mapS m hm).keep t (by simp only [List.mem_singleton]; rintro rfl; exact h.apart1 _ hm rfl)
    files := fun f hf => (h.files f hf).keep t (fun k hk => by simp only [List.mem_singleton]; rintro rfl; exact (h.apart2 f hf).1 hk)
    apart1 := h.apart1
    apart2 := h.apart2
    apart3 := h.apart3
    low := h.low
    names := h.names
    sorted := h.sorted }
theorem Rep.count {w : World} {base b : Nat} {S : DM} {s : DS} (h : Rep w base b S s) (x : Int) : Rep (w.setCell ⟨b, 7, none⟩ (.int .i64 x)) base b { S with ca := x } { s with ca := x } := by
  have := h.own ((Turn.refl [b] w).set (.inl (by simp)) 7 (.int .i64 x)) x s.sz s.dw (h.disk.set7 x)
  rw [h.dw] at this
  have e : ({ s with ca := x, dw := S.dw, sz := s.sz } : DS) = { s with ca := x } := by rw [← h.dw]
  rw [e] at this
  exact this
theorem Rep.fails {w : World} {base b : Nat} {S : DM} {s : DS} (h : Rep w base b S s) (hfl : S.fail.length < 1000000) :
    Calls Tryz.prog 101 #[.pointer (some ⟨b, 0, none⟩)] w fun e w' => e = .returned (.bool (S.fail.contains S.ca)) ∧ ∃ n, w' = w.drewN n := by
  obtain ⟨ao, c, ao', c', h1, h2, h3, h4, h5, h6, h7, h8⟩ := h.lists
  have := fails_any b s base ao c S.fail w h.disk h1 h3 h.sorted (by omega)
  rw [h.ca] at this
  exact this
set_option maxRecDepth 100000 in
theorem write_run (base b g : Nat) (cb : Array Value) (S : DM) (s : DS) (R : Int → World → Prop) (w : World) (hR : Rep w base b S s) (hdw : S.dw = false) (hcr : S.ca + 1 ≠ S.cr) (hfail : S.fail.contains (S.ca + 1) = false) (hca0 : 0 ≤ S.ca) (hca1 : S.ca < 1000000) (hfl : S.fail.length < 1000000)
    (hent : ∀ (args : Array Value) (w : World), (callFunc g args).run Tryz.prog w = .ok (.enter g args) w)
    (hcl : ∀ w1, Rep w1 base b { S with ca := S.ca + 1 } { s with ca := S.ca + 1 } → Turn [b] w w1 → Calls Tryz.prog g cb w1 (Left R)) :
    Calls Tryz.prog 60 #[theDisk b, .func (.func g) #[] cb] w (Left R) := by
  have c8 := hR.disk.c8
  have c7 := hR.disk.c7
  have c3 := hR.disk.c3
  have c2 := hR.disk.c2
  have e7 := hR.disk.free 7
  rw [hR.dw, hdw] at c8
  rw [hR.ca] at c7
  rw [hR.cr] at c2
  have hb1 : ((S.ca + 1 : Int) == S.cr) = false := by simpa using hcr
  have hR1 := hR.count (S.ca + 1)
  have t1 : Turn [b] w (w.setCell ⟨b, 7, none⟩ (.int .i64 (S.ca + 1))) := (Turn.refl [b] w).set (.inl (by simp)) 7 _
  have HR := Lib.hid (And.intro hR1 t1)
  have HF := Lib.hid hfail
  have HL := Lib.hid hfl
  have HC := Lib.hid hcl
  unfold theDisk
  clear hR hcl hR1 t1 hfail hfl hcr
  go_enter Tryz.func60, Tryz.ntmps60
  go_wp2
  go_step3
  go_wp2_with fail
  go_step3
  go_wp2_with fail
  obtain ⟨hR1, t1⟩ := HR.out
  generalize w.setCell ⟨b, 7, none⟩ (.int .i64 (S.ca + 1)) = w1 at *
  clear HR c8 c7 c3 c2 e7
  have c7 := hR1.disk.c7
  have c2 := hR1.disk.c2
  rw [hR1.ca] at c7
  rw [hR1.cr] at c2
  have HR := Lib.hid (And.intro hR1 t1)
  clear hR1 t1
  simp only at c7 c2
  go_quiet (fail)
  go_wp2_with fail
  refine ((HR.out.1.new ((Turn.refl [] w1).drewN nq)).fails HL.out).mono ?_
  rintro e w2 ⟨rfl, n2, rfl⟩
  rw [show ({ S with ca := S.ca + 1 } : DM).fail.contains ({ S with ca := S.ca + 1 } : DM).ca = false from HF.out]
  rw [World.drewN_drewN]
  have HT : Hid (Rep (w1.drewN (nq + n2)) base b { S with ca := S.ca + 1 } { s with ca := S.ca + 1 } ∧ Turn [b] w (w1.drewN (nq + n2))) := Lib.hid ⟨HR.out.1.new ((Turn.refl [] w1).drewN _), HR.out.2.drewN _⟩
  generalize w1.drewN (nq + n2) = w2 at *
  clear HR c7 c2 HL HF hb1 hca0 hca1
  go_wp2_with fail
  refine (HC.out w2 HT.out.1 HT.out.2).mono ?_
  rintro e w3 ⟨k, rfl, hk⟩
  have HK := Lib.hid hk
  clear hk HC HT hent
  go_wp2_with fail
  rw [Exit.noGoto_ret]
  go_ret
  exact ⟨k, rfl, HK.out⟩
end Go.Proofs.YthcdkggkoanjpaaGreatDoor
namespace Go.Proofs.YthcdkggkoanjpaaGreatDoor
open Go.RowKit Go.Maps Go.Sort Go.WideMaps
def cutTo (n : Nat) (g : FM) : FM := { g with bytes := g.bytes.take n, sy := min g.sy n }
theorem cut_rep {w w' : World} {base b : Nat} {S : DM} {s : DS} (h : Rep w base b S s) (hsz : s.sz = total S.files) (f : FM) (hf : S.files.find? (named f.name) = some f) (n : Nat) (hn : n ≤ f.bytes.length) (ao : Option Addr) (c : Nat)
    (hown : w.ownsRow base 5 1 (.slice ao f.bytes.length c) f.bytes.length (bv f.bytes)) (hrow : (Value.slice ao f.bytes.length c).ownBlock = f.row) (_hsy : f.sy ≤ f.bytes.length)
    (t : Turn [b, f.blk] w w') (hd : DiskC w' b { s with sz := s.sz - (f.bytes.length - n) }) (hfc : FileC w' f.blk (.slice ao n c) (min (f.sy : Int) n)) (hbase : base ≤ w.heap.size) :
    Rep w' base b { S with files := mapF f.name (cutTo n) S.files } { s with sz := total (mapF f.name (cutTo n) S.files) } := by
  obtain ⟨hmem, _⟩ := find_mem hf
  obtain ⟨hbf, hmf, hndf⟩ := h.apart2 f hmem
  have hblk : f.blk ∈ f.foot := by simp [FM.foot]
  have hl : (cutTo n f).bytes.length = n := by simp [cutTo]; omega
  have hrb : ∀ g, f.row = some g → g ≠ f.blk ∧ g ≠ b := by
    intro g hg
    refine ⟨?_, ?_⟩
    · rintro rfl; simp [FM.foot, hg] at hndf
    · rintro rfl; exact hbf (by simp [FM.foot, hg])
  have htot := total_mapF f.name (cutTo n) S.files f hf h.names
  rw [hl] at htot
  have e : s.sz - ((f.bytes.length : Int) - n) = (total (mapF f.name (cutTo n) S.files) : Int) := by omega
  rw [e] at hd
  refine h.file t f hf (cutTo n) (fun _ => rfl) (fun _ => rfl) (by intro x hx; simp at hx; rcases hx with rfl | rfl; exact .inl rfl; exact .inr hblk) ?_ (.inl rfl) _ hd hbase
  have e2 : ((cutTo n f).sy : Int) = min (f.sy : Int) n := by simp [cutTo]; omega
  refine ⟨ao, c, by rw [e2, hl]; exact hfc, ?_, ?_, ?_⟩
  · rw [hl, show bv (cutTo n f).bytes = (bv f.bytes).take n from by simp [cutTo, bv, List.map_take]]
    exact owns_turn (owns_take hown n hn) t (fun g hg => by
      have h0 : (Value.slice ao f.bytes.length c).ownBlock = some g := by cases ao with
        | none => cases hg
        | some a => exact hg
      have := hrb g (hrow.symm.trans h0)
      simp [this])
  · have : (Value.slice ao (cutTo n f).bytes.length c).ownBlock = (Value.slice ao f.bytes.length c).ownBlock := by cases ao <;> rfl
    rw [this]; exact hrow
  · rw [hl]; simp [cutTo]; omega
def Shorter (w : World) (base b : Nat) (S : DM) (ca : Int) (name : List UInt8) (n : Nat) (k : Int) (w' : World) : Prop :=
  k = 0 ∧ ∃ s', Rep w' base b { S with ca := ca, files := mapF name (cutTo n) S.files } s' ∧ s'.sz = total (mapF name (cutTo n) S.files) ∧ Turn (foot b S) w w'
def Refused (w : World) (base b : Nat) (S : DM) (s : DS) (ca : Int) (err : Int) (k : Int) (w' : World) : Prop :=
  k = err ∧ ∃ s', Rep w' base b { S with ca := ca } s' ∧ s'.sz = s.sz ∧ Turn (foot b S) w w'
theorem cut_clo (pd pn pk base b : Nat) (S : DM) (s : DS) (name : ByteArray) (n : Nat) (f : FM) (w : World) (hR : Rep w base b S s)
    (hd : w.cell? ⟨pd, 0, none⟩ = some (theDisk b)) (hn : w.cell? ⟨pn, 0, none⟩ = some (.string name)) (hk : w.cell? ⟨pk, 0, none⟩ = some (.int .i64 n))
    (hf : S.files.find? (named name.data.toList) = some f) (hl : name.size ≤ maxLen) (hnl : n ≤ f.bytes.length) (hsz : s.sz = total S.files) (hs1 : total S.files < 1000000000) (hbase : base ≤ w.heap.size) :
    Calls Tryz.prog 110 #[.pointer (some ⟨pd, 0, none⟩), .pointer (some ⟨pn, 0, none⟩), .pointer (some ⟨pk, 0, none⟩)] w (Left (Shorter w base b S S.ca name.data.toList n)) := by
  obtain ⟨hmem, hnm⟩ := find_mem hf
  obtain ⟨ao, c, hfc, hown, hrow, hsy⟩ := (hR.files f hmem).own
  obtain ⟨hbf, hmf, hnd⟩ := hR.apart2 f hmem
  have hblk : f.blk ∈ f.foot := by simp [FM.foot]
  have hsub : f.blk ∈ foot b S := by simp only [foot, List.mem_cons, List.mem_append, List.mem_flatMap]; exact .inr (.inr ⟨f, hmem, hblk⟩)
  have hbb : b ≠ f.blk := fun e => hbf (e ▸ hblk)
  have hlk : ∀ n, (Instr.lookup 74 s.fs (.string name) false).run Tryz.prog (w.drewN n) = .ok (.pointer (some ⟨f.blk, 0, none⟩)) (w.drewN n) := by
    intro n
    have := (hR.new ((Turn.refl [] w).drewN n)).look name hl
    rw [this]; simp [ptrOf, hf]
  have hft := le_total hmem
  have hcp := owns_cap hown
  have HS := Lib.hid (fun q : Nat => shorten_any b f.blk s ao f.bytes.length c f.sy n (w.drewN q) hR.disk hfc hnl hcp.1 hcp.2 hbb (by omega) (by omega))
  have HC := Lib.hid (fun (q : Nat) (w2 : World) (hd2 : DiskC w2 b { s with sz := s.sz - (f.bytes.length - n) }) (hf2 : FileC w2 f.blk (.slice ao n c) (min (f.sy : Int) n)) (t2 : Turn [b, f.blk] (w.drewN q) w2) =>
    cut_rep hR hsz f (by rw [hnm]; exact hf) n hnl ao c hown hrow hsy ⟨t2.os, t2.tape, t2.output, t2.size, t2.block⟩ hd2 hf2 hbase)
  have c5 := hR.disk.c5
  have f0 := hfc.c0
  have k1 : ¬ ((n : Int) < 0) := by omega
  have k2 : decide ((n : Int) < 0) = false := by simp
  have k3 : decide (f.bytes.length < n) = false := by simp; omega
  have k4 : ¬ (f.bytes.length < n) := by omega
  unfold theDisk at hd
  have HN := Lib.hid (And.intro hnm hsub)
  clear hR hfc hown hrow hsy hbf hmf hnd hblk hbb hft hcp hf hmem hnm hsub hsz hs1 hbase
  go_enter Tryz.func110, Tryz.ntmps110
  go_wp2
  go_quiet (fail)
  go_wp2
  go_quiet (fail)
  go_wp2_with fail
  refine (HS.out _).mono ?_
  rintro e w2 ⟨rfl, hd2, hf2, t2⟩
  have HR2 := Lib.hid (HC.out _ w2 hd2 hf2 t2)
  have HT2 : Hid (Turn (foot b S) w w2) := Lib.hid (⟨t2.os, t2.tape, t2.output, t2.size, fun k hk hne => t2.block k hk (by simp; exact ⟨fun e => hne (by simp [foot, e]), fun e => hne (e ▸ HN.out.2)⟩)⟩)
  clear HS HC hd2 hf2 t2 c5 f0 hlk
  go_wp2_with fail
  go_ret
  have := HR2.out
  rw [HN.out.1] at this
  exact ⟨0, rfl, rfl, _, this, rfl, HT2.out⟩
theorem cut_bad (pd pn pk base b : Nat) (S : DM) (s : DS) (name : ByteArray) (n : Int) (f : FM) (w : World) (hR : Rep w base b S s)
    (hd : w.cell? ⟨pd, 0, none⟩ = some (theDisk b)) (hn : w.cell? ⟨pn, 0, none⟩ = some (.string name)) (hk : w.cell? ⟨pk, 0, none⟩ = some (.int .i64 n))
    (hf : S.files.find? (named name.data.toList) = some f) (hl : name.size ≤ maxLen) (h0 : 0 ≤ n) (hnl : (f.bytes.length : Int) < n) (_hbase : base ≤ w.heap.size) :
    Calls Tryz.prog 110 #[.pointer (some ⟨pd, 0, none⟩), .pointer (some ⟨pn, 0, none⟩), .pointer (some ⟨pk, 0, none⟩)] w (Left (Refused w base b S s S.ca 1)) := by
  obtain ⟨hmem, hnm⟩ := find_mem hf
  obtain ⟨ao, c, hfc, hown, hrow, hsy⟩ := (hR.files f hmem).own
  have hlk : ∀ n, (Instr.lookup 74 s.fs (.string name) false).run Tryz.prog (w.drewN n) = .ok (.pointer (some ⟨f.blk, 0, none⟩)) (w.drewN n) := by
    intro n
    have := (hR.new ((Turn.refl [] w).drewN n)).look name hl
    rw [this]; simp [ptrOf, hf]
  have c5 := hR.disk.c5
  have f0 := hfc.c0
  have k1 : ¬ (n < 0) := by omega
  have k2 : decide (n < 0) = false := by simp; omega
  have k3 : decide ((f.bytes.length : Int) < n) = true := by simp; omega
  unfold theDisk at hd
  have HR := Lib.hid hR
  clear hR hfc hown hrow hsy hf hmem hnm
  go_enter Tryz.func110, Tryz.ntmps110
  go_wp2
  go_quiet (fail)
  go_wp2
  go_quiet (fail)
  go_wp2
  go_ret
  rw [World.drewN_drewN]
  exact ⟨1, rfl, rfl, s, HR.out.new ((Turn.refl [] w).drewN _), rfl, (Turn.refl _ w).drewN _⟩
end Go.Proofs.YthcdkggkoanjpaaGreatDoor
