/- Read, of a file that is there. Numbers and types by name. -/
import Derived.Test.YthcdkggkoanjpaaGreatDoorFil
import Derived.Test.YthcdkggkoanjpaaGreatDoorAp2
namespace Go.Proofs.YthcdkggkoanjpaaGreatDoor
open Go.RowKit Go.Maps Go.Sort Go.WideMaps
def sortedNames (files : List FM) : List (List UInt8) := (files.map (·.name)).mergeSort leB
theorem sortedNames_perm (files : List FM) : (sortedNames files).Perm (files.map (·.name)) := List.mergeSort_perm _ _
theorem names_rep (base b : Nat) (S : DM) (s : DS) (w : World) (hR : Rep w base b S s) (hlen : S.files.length < 1000000) :
    Calls Tryz.prog 42 #[theDisk b] w fun e w' => ∃ ao c, e = .returned (.slice ao (sortedNames S.files).length c) ∧
      w'.ownsRow w.heap.size 9 1 (.slice ao (sortedNames S.files).length c) (sortedNames S.files).length ((sortedNames S.files).map encStr) ∧ w.grownBy w' none := by
  cases hm : S.mp with
  | none =>
    refine (names_none b s w hR.disk (by rw [hR.fs, hm])).mono ?_
    rintro e w' ⟨rfl, hg⟩
    have : sortedNames S.files = [] := by simp [sortedNames, hR.mapN hm]
    rw [this]
    exact ⟨none, 0, rfl, World.ownsRow_nil _ _ _ _, hg⟩
  | some m =>
    obtain ⟨D, hown, h1, h2, h3⟩ := hR.mapS m hm
    refine (names_some b m _ s D Rp w hR.disk (by rw [hR.fs, hm]) hown (by rw [h1]; unfold maxLen; omega) (by rw [h1]; omega)).mono ?_
    rintro e w' ⟨v, ss, rfl, hp, hrow, _, hg⟩
    have hp2 := (hR.mapS m hm).perm hR.names hown h3
    have e1 : ss.mergeSort (fun x y => decide (x ≤ y)) = sortedNames S.files := mergeSort_of_perm (hp.trans hp2.symm)
    have e2 : ss.length = (sortedNames S.files).length := by rw [← e1]; simp
    rw [e1, e2] at hrow
    obtain ⟨ao, c, rfl⟩ := owns_shape hrow
    exact ⟨ao, c, rfl, hrow, hg⟩
def survive (q : Int) (g : FM) : FM :=
  { g with bytes := g.bytes.take (g.sy + min q.toNat (g.bytes.length - g.sy)), sy := g.sy + min q.toNat (g.bytes.length - g.sy) }
def resF (keep : List Int) (ss : List (List UInt8)) (files : List FM) : Nat → List FM
  | 0 => files
  | k + 1 => mapF (ss.getD k []) (survive (keep.getD k 0)) (resF keep ss files k)
theorem resF_names (keep : List Int) (ss : List (List UInt8)) (files : List FM) (k : Nat) : (resF keep ss files k).map (·.name) = files.map (·.name) := by
  induction k with
  | zero => rfl
  | succ k ih => rw [resF, mapF_names _ (survive _) (fun _ => rfl), ih]
theorem mapF_foot (k : List UInt8) (u : FM → FM) (hu : ∀ g, (u g).foot = g.foot) (files : List FM) : (mapF k u files).flatMap FM.foot = files.flatMap FM.foot := by
  unfold mapF
  induction files with
  | nil => rfl
  | cons a l ih =>
    simp only [List.map_cons, List.flatMap_cons, ih]
    congr 1
    split
    · exact hu a
    · rfl
theorem resF_foot (keep : List Int) (ss : List (List UInt8)) (files : List FM) (k : Nat) : (resF keep ss files k).flatMap FM.foot = files.flatMap FM.foot := by
  induction k with
  | zero => rfl
  | succ k ih => rw [resF, mapF_foot _ (survive _) (fun _ => rfl), ih]
theorem total_survive (k : List UInt8) (q : Int) (files : List FM) : total (mapF k (survive q) files) ≤ total files := by
  unfold total mapF
  induction files with
  | nil => simp
  | cons a l ih =>
    simp only [List.map_cons, List.sum_cons]
    have : (if named k a = true then survive q a else a).bytes.length ≤ a.bytes.length := by
      split
      · simp only [survive, List.length_take]; exact Nat.min_le_right _ _
      · exact Nat.le_refl _
    omega
theorem total_resF (keep : List Int) (ss : List (List UInt8)) (files : List FM) (k : Nat) : total (resF keep ss files k) ≤ total files := by
  induction k with
  | zero => exact Nat.le_refl _
  | succ k ih => exact Nat.le_trans (total_survive _ _ _) ih
theorem owns_take {w : World} {base e : Nat} {ao : Option Addr} {len c : Nat} {xs : List Value} (h : w.ownsRow base e 1 (.slice ao len c) len xs) (n : Nat) (hn : n ≤ len) : w.ownsRow base e 1 (.slice ao n c) n (xs.take n) := by
  have hl := h.1
  refine ⟨by simp; omega, ?_⟩
  rcases h.2 with ⟨hv, h0⟩ | ⟨g, cap, cur, hv, hb, hg, h1, h2, h3, h4⟩
  · simp only [Value.slice.injEq] at hv
    obtain ⟨rfl, _, rfl⟩ := hv
    obtain rfl : n = 0 := by omega
    exact .inl ⟨rfl, rfl⟩
  · simp only [Value.slice.injEq] at hv
    obtain ⟨rfl, _, rfl⟩ := hv
    refine .inr ⟨g, c, cur, rfl, hb, hg, by omega, h2, h3, ?_⟩
    rw [← h4, List.take_take]
    congr 1
    omega
theorem find_of_name {files files' : List FM} (hn : files'.map (·.name) = files.map (·.name)) {x : List UInt8} (hx : ∃ f ∈ files, f.name = x) : ∃ f, files'.find? (named x) = some f := by
  obtain ⟨f, hf, rfl⟩ := hx
  have h1 : f.name ∈ files'.map (·.name) := by rw [hn]; exact List.mem_map.2 ⟨f, hf, rfl⟩
  obtain ⟨g, hg, hgn⟩ := List.mem_map.1 h1
  cases h : files'.find? (named f.name) with
  | some g' => exact ⟨g', rfl⟩
  | none =>
    rw [List.find?_eq_none] at h
    exact absurd (by simp [named, hgn]) (h g hg)
theorem own_strs {w : World} {base : Nat} {ao : Option Addr} {c : Nat} {ss : List (List UInt8)} (h : w.ownsRow base 9 1 (.slice ao ss.length c) ss.length (ss.map encStr)) {k : Nat} (hk : k < ss.length) :
    ∃ g, ao = some ⟨g, 0, none⟩ ∧ w.cell? ⟨g, k, none⟩ = some (encStr (ss.getD k [])) := by
  rcases h.2 with ⟨h, h0⟩ | ⟨g, cap, cur, h, hb, hg, h1, h2, h3, h4⟩
  · omega
  · simp only [Value.slice.injEq] at h
    obtain ⟨rfl, _, rfl⟩ := h
    refine ⟨g, rfl, ?_⟩
    have e1 : (cur.toList.take ss.length)[k]? = (ss.map encStr)[k]? := by rw [← h4]; simp
    rw [List.getElem?_take_of_lt hk] at e1
    simp only [World.cell?, hg]
    simp only [Option.isSome_none, Bool.false_eq_true, if_false]
    rw [← Array.getElem?_toList, e1]
    simp [hk]
theorem le_total {files : List FM} {f : FM} (hf : f ∈ files) : f.bytes.length ≤ total files := by
  unfold total
  induction files with
  | nil => cases hf
  | cons a l ih =>
    simp only [List.map_cons, List.sum_cons]
    rcases List.mem_cons.1 hf with rfl | h
    · omega
    · have := ih h; omega
theorem more_is (sy len : Nat) (q : Int) (h1 : sy ≤ len) (h2 : len < 1000000000) : wrap64 ((sy : Int) + min (max q 0) (wrap64 ((len : Int) - sy))) = ((sy + min q.toNat (len - sy) : Nat) : Int) := by
  have e1 : wrap64 ((len : Int) - sy) = (len : Int) - sy := IntWalk.wrap64_in _ (by omega)
  rw [e1, IntWalk.wrap64_in _ (by omega)]
  omega
theorem owns_cap {w : World} {base e : Nat} {ao : Option Addr} {len c : Nat} {xs : List Value} (h : w.ownsRow base e 1 (.slice ao len c) len xs) : len ≤ c ∧ c ≤ 9223372036854775807 := by
  rcases h.2 with ⟨hv, h0⟩ | ⟨g, cap, cur, hv, hb, hg, h1, h2, h3, h4⟩
  · simp only [Value.slice.injEq] at hv
    omega
  · simp only [Value.slice.injEq] at hv
    obtain ⟨rfl, _, rfl⟩ := hv
    unfold maxLen at h2
    omega
theorem shorten_int (b f : Nat) (s : DS) (ao : Option Addr) (len cap : Nat) (sy : Int) (x : Int) (n : Nat) (hx : x = n) (w : World) (hd : DiskC w b s) (hf : FileC w f (.slice ao len cap) sy) (hn : n ≤ len) (hc : len ≤ cap) (hm : cap ≤ 9223372036854775807) (hne : b ≠ f)
    (hs0 : (len : Int) - n ≤ s.sz) (hs1 : s.sz ≤ 9223372036854775807) :
    Calls Tryz.prog 43 #[.pointer (some ⟨b, 0, none⟩), .pointer (some ⟨f, 0, none⟩), .int .i64 x] w fun e w' => e = .returned (.tuple #[]) ∧
      DiskC w' b { s with sz := s.sz - (len - n) } ∧ FileC w' f (.slice ao n cap) (min sy n) ∧ Turn [b, f] w w' := by
  subst hx
  exact shorten_any b f s ao len cap sy n w hd hf hn hc hm hne hs0 hs1
end Go.Proofs.YthcdkggkoanjpaaGreatDoor
namespace Go.Proofs.YthcdkggkoanjpaaGreatDoor
open Go.RowKit Go.Maps Go.Sort Go.WideMaps
theorem round_rep {w w' : World} {base b : Nat} {S : DM} {s : DS} (h : Rep w base b S s) (f : FM) (hf : S.files.find? (named f.name) = some f) (q : Int) (ao : Option Addr) (c : Nat)
    (hown : w.ownsRow base 5 1 (.slice ao f.bytes.length c) f.bytes.length (bv f.bytes)) (hrow : (Value.slice ao f.bytes.length c).ownBlock = f.row) (hsy : f.sy ≤ f.bytes.length)
    (t : Turn [b, f.blk] w w') (hd : DiskC w' b { s with sz := total (mapF f.name (survive q) S.files) }) (hfc : FileC w' f.blk (.slice ao (survive q f).bytes.length c) (survive q f).bytes.length) (hbase : base ≤ w.heap.size) :
    Rep w' base b { S with files := mapF f.name (survive q) S.files } { s with sz := total (mapF f.name (survive q) S.files) } := by
  obtain ⟨hmem, _⟩ := find_mem hf
  obtain ⟨hbf, hmf, hndf⟩ := h.apart2 f hmem
  have hblk : f.blk ∈ f.foot := by simp [FM.foot]
  have hl : (survive q f).bytes.length = f.sy + min q.toNat (f.bytes.length - f.sy) := by simp [survive]; omega
  have hrb : ∀ g, f.row = some g → g ≠ f.blk ∧ g ≠ b := by
    intro g hg
    refine ⟨?_, ?_⟩
    · rintro rfl; simp [FM.foot, hg] at hndf
    · rintro rfl; exact hbf (by simp [FM.foot, hg])
  refine h.file t f hf (survive q) (fun _ => rfl) (fun _ => rfl) (by intro x hx; simp at hx; rcases hx with rfl | rfl; exact .inl rfl; exact .inr hblk) ?_ (.inl rfl) _ hd hbase
  have hle : (survive q f).bytes.length ≤ f.bytes.length := by rw [hl]; omega
  have e1 : bv (survive q f).bytes = (bv f.bytes).take (survive q f).bytes.length := by
    rw [hl]; simp [survive, bv, List.map_take]
  have e2 : ((survive q f).sy : Int) = (survive q f).bytes.length := by rw [hl]; rfl
  refine ⟨ao, c, by rw [← e2] at hfc; exact hfc, ?_, ?_, ?_⟩
  · rw [e1]
    exact owns_turn (owns_take hown _ hle) t (fun g hg => by
      have h0 : (Value.slice ao f.bytes.length c).ownBlock = some g := by cases ao with
        | none => cases hg
        | some a => exact hg
      have := hrb g (hrow.symm.trans h0)
      simp [this])
  · have : (Value.slice ao (survive q f).bytes.length c).ownBlock = (Value.slice ao f.bytes.length c).ownBlock := by cases ao <;> rfl
    rw [this]; exact hrow
  · rw [hl]; exact Nat.le_refl _
theorem round_close {w1 wr w2 : World} {base b k : Nat} {S : DM} {s : DS} {ss : List (List UInt8)} {f : FM} {nm : List UInt8} {aof : Option Addr} {cf : Nat} {q : Int}
    (hRk : Rep wr base b { S with files := resF S.keep ss S.files k } { s with sz := (total (resF S.keep ss S.files k) : Int) }) (tk : Turn (foot b S) w1 wr) (hf : (resF S.keep ss S.files k).find? (named nm) = some f) (hfn : f.name = nm)
    (hown : wr.ownsRow base 5 1 (.slice aof f.bytes.length cf) f.bytes.length (bv f.bytes)) (hfrow : (Value.slice aof f.bytes.length cf).ownBlock = f.row) (hsy : f.sy ≤ f.bytes.length) (hnm : ss.getD k [] = nm) (hq : S.keep.getD k 0 = q)
    (hd2 : DiskC w2 b { s with sz := (total (resF S.keep ss S.files k) : Int) - (f.bytes.length - ((f.sy + min q.toNat (f.bytes.length - f.sy) : Nat) : Int)) })
    (hf2 : FileC w2 f.blk (.slice aof (f.sy + min q.toNat (f.bytes.length - f.sy)) cf) (min (f.sy : Int) ((f.sy + min q.toNat (f.bytes.length - f.sy) : Nat) : Int))) (t2 : Turn [b, f.blk] wr w2) (hbase : base ≤ wr.heap.size) :
    Rep (w2.setCell ⟨f.blk, 1, none⟩ (.int .i64 ((f.sy + min q.toNat (f.bytes.length - f.sy) : Nat) : Int))) base b { S with files := resF S.keep ss S.files (k + 1) } { s with sz := (total (resF S.keep ss S.files (k + 1)) : Int) } ∧
      Turn (foot b S) w1 (w2.setCell ⟨f.blk, 1, none⟩ (.int .i64 ((f.sy + min q.toNat (f.bytes.length - f.sy) : Nat) : Int))) := by
  subst hnm
  obtain ⟨hfm, _⟩ := find_mem hf
  obtain ⟨hbf, hmf, hndf⟩ := hRk.apart2 f hfm
  have hblk : f.blk ∈ f.foot := by simp [FM.foot]
  have hne : b ≠ f.blk := fun e => hbf (e ▸ hblk)
  have hl : (survive q f).bytes.length = f.sy + min q.toNat (f.bytes.length - f.sy) := by simp [survive]; omega
  have et : resF S.keep ss S.files (k + 1) = mapF f.name (survive q) (resF S.keep ss S.files k) := by rw [resF, hfn, hq]
  have hf' : (resF S.keep ss S.files k).find? (named f.name) = some f := by rw [hfn]; exact hf
  have htot := total_mapF f.name (survive q) (resF S.keep ss S.files k) f hf' hRk.names
  rw [hl] at htot
  have t3 : Turn [b, f.blk] wr (w2.setCell ⟨f.blk, 1, none⟩ (.int .i64 ((f.sy + min q.toNat (f.bytes.length - f.sy) : Nat) : Int))) := t2.set (.inl (by simp)) 1 _
  have hfoot : foot b { S with files := resF S.keep ss S.files k } = foot b S := by simp only [foot, resF_foot]
  have hsub : f.blk ∈ foot b S := by
    rw [← hfoot]
    simp only [foot, List.mem_cons, List.mem_append, List.mem_flatMap]
    exact .inr (.inr ⟨f, hfm, hblk⟩)
  constructor
  · rw [et]
    refine round_rep hRk f hf' q aof cf hown hfrow hsy t3 ?_ ?_ hbase
    · have e : ((total (resF S.keep ss S.files k) : Int) - (f.bytes.length - ((f.sy + min q.toNat (f.bytes.length - f.sy) : Nat) : Int))) = (total (mapF f.name (survive q) (resF S.keep ss S.files k)) : Int) := by omega
      rw [e] at hd2
      exact hd2.setNe hne 1 _
    · have := hf2.set1 ((f.sy + min q.toNat (f.bytes.length - f.sy) : Nat) : Int)
      rw [hl]; exact this
  · exact tk.trans (t3.mono (by intro x hx; simp at hx; rcases hx with rfl | rfl; simp [foot]; exact hsub))
theorem sorted_leI (zs : List Int) : (zs.mergeSort leI).Pairwise (· ≤ ·) := by
  have := List.pairwise_mergeSort (le := leI) (fun a b c h1 h2 => by simp only [leI, decide_eq_true_eq] at *; omega) (fun a b => by simp only [leI, Bool.or_eq_true, decide_eq_true_eq]; omega) zs
  exact this.imp fun h => by simpa [leI] using h
theorem Rep.begun {w w' : World} {base b : Nat} {S : DM} {s : DS} (h : Rep w base b S s) (t : Turn [b] w w') (cap cr : Int) (dn : Bool) (zs ks : List Int) (ao ao' : Option Addr) (c c' : Nat)
    (hd : DiskC w' b { s with cap := cap, fl := .slice ao zs.length c, cr := cr, dn := dn, kp := .slice ao' ks.length c', ca := 0, dw := false })
    (h1 : w'.ownsRow w.heap.size 3 1 (.slice ao zs.length c) zs.length (iv (zs.mergeSort leI))) (h2 : w'.ownsRow w.heap.size 3 1 (.slice ao' ks.length c') ks.length (iv ks)) (hbase : base ≤ w.heap.size) :
    Rep w' base b { S with cap := cap, cr := cr, dn := dn, ca := 0, dw := false, fail := zs.mergeSort leI, keep := ks, fr := (Value.slice ao zs.length c).ownBlock, kr := (Value.slice ao' ks.length c').ownBlock }
      { s with cap := cap, fl := .slice ao zs.length c, cr := cr, dn := dn, kp := .slice ao' ks.length c', ca := 0, dw := false } := by
  have hlt := h.lt
  have el : (zs.mergeSort leI).length = zs.length := by simp
  exact {
    disk := hd
    cap := rfl
    cr := rfl
    ca := rfl
    dn := rfl
    dw := rfl
    fs := h.fs
    lists := ⟨ao, c, ao', c', by simp, rfl, by rw [el]; exact owns_base h1 hbase, owns_base h2 hbase, by simp, rfl,
      (fun g hg hm => by have := hlt g hm; have := (h1.lt g hg).1; omega), (fun g hg hm => by have := hlt g hm; have := (h2.lt g hg).1; omega)⟩
    mapN := h.mapN
    mapS := fun m hm => (h.mapS m hm).keep t (by simp only [List.mem_singleton]; rintro rfl; exact h.apart1 _ hm rfl)
    files := fun f hf => (h.files f hf).keep t (fun k hk => by simp only [List.mem_singleton]; rintro rfl; exact (h.apart2 f hf).1 hk)
    apart1 := h.apart1
    apart2 := h.apart2
    apart3 := h.apart3
    low := h.low
    names := h.names
    sorted := sorted_leI zs }
theorem more_zero (sy len : Nat) (h2 : sy ≤ len) (h3 : len < 1000000000) : wrap64 ((sy : Int)) = ((sy + min (0 : Int).toNat (len - sy) : Nat) : Int) := by
  rw [IntWalk.wrap64_in _ (by omega)]
  simp
set_option maxRecDepth 100000 in
set_option maxHeartbeats 1000000 in
theorem restart_any_at (base b : Nat) (S : DM) (s : DS) (cap cr : Int) (dn : Bool) (fl kp : Value) (zs ks : List Int) (w : World) (hR : Rep w base b S s) (hsz : s.sz = total S.files) (htot : total S.files < 1000000000) (hlen : S.files.length < 1000000) (hkl : S.keep.length < 1000000)
    (hf : Reads w fl (iv zs)) (hk : Reads w kp (iv ks)) (hfb : zs ≠ [] → ∀ a n c, fl = .slice (some a) n c → a.block ∉ foot b S) (hkb : ks ≠ [] → ∀ a n c, kp = .slice (some a) n c → a.block ∉ foot b S) (hz : zs.length < 1000000) (hz2 : ks.length < 1000000) (hbase : base ≤ w.heap.size)
    (hcapl : ∀ f ∈ S.files, f.name.length ≤ maxLen) :
    Calls Tryz.prog 18 #[theDisk b, .agg #[.int .i64 cap, fl, .int .i64 cr, .bool dn, kp]] w fun e w' => e = .returned (.tuple #[]) ∧ ∃ s' fr kr, ((∀ g, fr = some g → w.heap.size ≤ g) ∧ ∀ g, kr = some g → w.heap.size ≤ g) ∧
      Rep w' base b { S with cap := cap, cr := cr, dn := dn, ca := 0, dw := false, fail := zs.mergeSort leI, keep := ks, fr := fr, kr := kr, files := resF S.keep (sortedNames S.files) S.files (sortedNames S.files).length } s' ∧
      s'.sz = total (resF S.keep (sortedNames S.files) S.files (sortedNames S.files).length) ∧ Turn (foot b S) w w' := by
  have hlt := hR.lt
  have hP : ∀ W, W = w.alloc (.cells #[.int .i64 cap, fl, .int .i64 cr, .bool dn, kp] 31) → _ := fun W hW => names_rep base b S s W (hR.new (hW ▸ (Turn.refl [] w).alloc _)) hlen
  obtain ⟨ss, hss⟩ : ∃ ss, sortedNames S.files = ss := ⟨_, rfl⟩
  rw [hss] at hP
  have hmem : ∀ x ∈ ss, (∃ f ∈ S.files, f.name = x) ∧ x.length ≤ maxLen := by
    intro x hx
    have := (sortedNames_perm S.files).mem_iff.1 (hss ▸ hx)
    simp only [List.mem_map] at this
    obtain ⟨f, hf, rfl⟩ := this
    exact ⟨⟨f, hf, rfl⟩, hcapl f hf⟩
  have hssl : ss.length < 1000000 := by
    have := (sortedNames_perm S.files).length_eq
    rw [hss] at this
    simp at this
    omega
  unfold theDisk at hP
  unfold theDisk
  have HP := Lib.hid hP
  have HS := Lib.hid hss
  clear hP hss
  go_enter Tryz.func18, Tryz.ntmps18
  go_wp2_with fail
  refine (HP.out _ rfl).mono ?_
  rintro e w1 ⟨ao, c, rfl, hrow, hg⟩
  have t01 : Turn [] w w1 := ((Turn.refl [] w).alloc _).trans (Turn.of_none hg)
  have hR1 := hR.new t01
  have hbox : w1.heap[w.heap.size]? = some (.cells #[.int .i64 cap, fl, .int .i64 cr, .bool dn, kp] 31 (0, 0)) := (Turn.of_none (F := []) hg).heap (heap_alloc_new _ _) (by simp)
  have hnb : ∀ g, (Value.slice ao ss.length c).ownBlock = some g → g ∉ foot b S := by
    intro g hg' hm
    have h1 := (hrow.lt g hg').1
    have h2 := hlt g hm
    simp at h1
    omega
  have hwb : w.heap.size ∉ foot b S := fun hm => by have := hlt _ hm; omega
  clear HP hg
  have HALL := Lib.hid (And.intro hR1 (And.intro hbox (And.intro hnb (And.intro hrow (And.intro hmem (And.intro hwb hsz))))))
  have HRD := Lib.hid (And.intro hf (And.intro hk (And.intro hfb hkb)))
  clear hR1 hbox hnb hrow hmem hwb hR hf hk hfb hkb hcapl hsz
  go_wp2_with fail
  go_loopw [13] (fun i wr => ∃ k : Nat, k ≤ ss.length ∧ i = .int .i64 k ∧ Hid (Rep wr base b { S with files := resF S.keep ss S.files k } { s with sz := total (resF S.keep ss S.files k) } ∧ Turn (foot b S) w1 wr))
    (fun i _ => ss.length - (intOf i).toNat)
  case atStart => 
    have h := HALL.out
    refine ⟨0, Nat.zero_le _, rfl, ?_, Turn.refl _ _⟩
    have e : ({ s with sz := (total (resF S.keep ss S.files 0) : Int) } : DS) = s := by rw [resF, ← h.2.2.2.2.2.2]
    rw [e]
    exact h.1
  case round =>
    obtain ⟨k, hk, rfl, hrel⟩ := hrel
    obtain ⟨hRk, tk⟩ := hrel.out
    by_cases hlt2 : k < ss.length
    · obtain ⟨hR1, hbox, hnb, hrow, hmem, hwb, hsz⟩ := HALL.out
      have hrowk := owns_turn hrow tk hnb
      obtain ⟨g, rfl, hcell⟩ := own_strs hrowk hlt2
      have hnmem : ss.getD k [] ∈ ss := by
        rw [List.getD_eq_getElem?_getD, List.getElem?_eq_getElem hlt2]; simp
      obtain ⟨f, hf⟩ := find_of_name (resF_names S.keep ss S.files k) (hmem _ hnmem).1
      obtain ⟨hfm, hfn⟩ := find_mem hf
      obtain ⟨aof, cf, hfc, hown, hfrow, hsy⟩ := (hRk.files f hfm).own
      have hnl := (hmem _ hnmem).2
      generalize hnm : ss.getD k [] = nm at *
      have hlk := hRk.look ⟨nm.toArray⟩ (by simpa [ByteArray.size] using hnl)
      have hpt : ptrOf (resF S.keep ss S.files k) nm = some ⟨f.blk, 0, none⟩ := by simp [ptrOf, hf]
      simp only at hlk
      rw [hpt] at hlk
      have c5 := hRk.disk.c5
      have c4 := hRk.disk.c4
      obtain ⟨aol, cl, aok, ck, hl1, hl2, hl3, hl4, hl5, hl6, hl7, hl8⟩ := hRk.lists
      simp only at c5 c4 hl2
      rw [hl2] at c4
      have f0 := hfc.c0
      have f1 := hfc.c1
      have f1f := hfc.free 1
      have hF := Lib.hid (And.intro hRk (And.intro tk (And.intro hf (And.intro hfm (And.intro hfn (And.intro hfc (And.intro hown (And.intro hfrow (And.intro hsy (And.intro hl4 hnm))))))))))
      clear hRk tk hf hfm hfn hfc hown hfrow hl1 hl2 hl3 hl5 hl6 hl7 hl8 hnm hR1 hbox hnb hrow hmem hwb hsz hrowk hnmem hnl hpt hrel
      by_cases hkc : k < S.keep.length
      · rcases own_ints hl4 with ⟨h0, _⟩ | ⟨gk, rfl, hkcell⟩
        · rw [h0] at hkc; simp at hkc
        have hkc1 := hkcell k hkc
        clear hkcell hl4
        generalize hq : S.keep.getD k 0 = q at *
        have HQ := Lib.hid hq
        clear hq
        rw [Nat.zero_add] at hkc1
        go_wp2_with fail
        go_quiet (fail)
        go_wp2_with fail
        obtain ⟨hRk, tk, hf, hfm, hfn, hfc, hown, hfrow, hsy, hl4, hnm⟩ := hF.out
        obtain ⟨hbf, hmf, hndf⟩ := hRk.apart2 f hfm
        have hft : f.bytes.length ≤ total (resF S.keep ss S.files k) := le_total hfm
        have htk := total_resF S.keep ss S.files k
        have hcf := owns_cap hown
        have hne : b ≠ f.blk := fun e => hbf (by simp [FM.foot, ← e])
        refine (shorten_int b f.blk _ aof f.bytes.length cf f.sy _ _ (more_is f.sy f.bytes.length q hsy (by omega)) (wr.drewN nq) hRk.disk hfc (by omega) hcf.1 hcf.2 hne (by show _ ≤ ((total (resF S.keep ss S.files k) : Nat) : Int); omega) (by show ((total (resF S.keep ss S.files k) : Nat) : Int) ≤ _; omega)).mono ?_
        rintro e w2 ⟨rfl, hd2, hf2, t2⟩
        have hbw : base ≤ wr.heap.size := Nat.le_trans (Nat.le_trans hbase t01.size) tk.size
        have HC := Lib.hid (round_close hRk tk hf hfn hown hfrow hsy hnm HQ.out hd2 hf2 ⟨t2.os, t2.tape, t2.output, t2.size, t2.block⟩ hbw)
        have f0' := hf2.c0
        have f1' := hf2.c1
        have f1f' := hf2.free 1
        clear hRk tk hf hfm hfn hfc hown hfrow hl4 hnm hbf hmf hndf htk hcf hd2 hf2 t2 hF hcell hlk c5 c4 f0 f1 f1f hkc1
        go_wp2_with fail
        go_roundw
        case rel => exact ⟨k + 1, by omega, by go_num, HC.out⟩
        case measure => simp [intOf]; omega
      · have hkc2 : ¬ ((k : Int) < (S.keep.length : Int)) := by omega
        have HQ : Hid (S.keep.getD k 0 = 0) := Lib.hid (by rw [List.getD_eq_getElem?_getD, List.getElem?_eq_none (by omega)]; rfl)
        clear hl4
        go_wp2_with fail
        obtain ⟨hRk, tk, hf, hfm, hfn, hfc, hown, hfrow, hsy, hl4, hnm⟩ := hF.out
        obtain ⟨hbf, hmf, hndf⟩ := hRk.apart2 f hfm
        have hft : f.bytes.length ≤ total (resF S.keep ss S.files k) := le_total hfm
        have htk := total_resF S.keep ss S.files k
        have hcf := owns_cap hown
        have hne : b ≠ f.blk := fun e => hbf (by simp [FM.foot, ← e])
        refine (shorten_int b f.blk _ aof f.bytes.length cf f.sy _ _ (more_zero f.sy f.bytes.length hsy (by omega)) wr hRk.disk hfc (by omega) hcf.1 hcf.2 hne (by show _ ≤ ((total (resF S.keep ss S.files k) : Nat) : Int); omega) (by show ((total (resF S.keep ss S.files k) : Nat) : Int) ≤ _; omega)).mono ?_
        rintro e w2 ⟨rfl, hd2, hf2, t2⟩
        have hbw : base ≤ wr.heap.size := Nat.le_trans (Nat.le_trans hbase t01.size) tk.size
        have HC := Lib.hid (round_close hRk tk hf hfn hown hfrow hsy hnm HQ.out hd2 hf2 t2 hbw)
        have f0' := hf2.c0
        have f1' := hf2.c1
        have f1f' := hf2.free 1
        clear hRk tk hf hfm hfn hfc hown hfrow hl4 hnm hbf hmf hndf htk hcf hd2 hf2 t2 hF hcell hlk c5 c4 f0 f1 f1f
        go_wp2_with fail
        go_roundw
        case rel => exact ⟨k + 1, by omega, by go_num, HC.out⟩
        case measure => simp [intOf]; omega
    · obtain rfl : k = ss.length := by omega
      obtain ⟨hR1, hbox, hnb, hrow, hmem, hwb, hsz⟩ := HALL.out
      have hbox2 := tk.heap hbox hwb
      have p0 := cells_of hbox2 0 (.int .i64 cap) rfl
      have p1 := cells_of hbox2 1 fl rfl
      have p2 := cells_of hbox2 2 (.int .i64 cr) rfl
      have p3 := cells_of hbox2 3 (.bool dn) rfl
      have p4 := cells_of hbox2 4 kp rfl
      have tw : Turn (foot b S) w wr := (t01.mono (by simp)).trans tk
      have hbw : base ≤ wr.heap.size := Nat.le_trans (Nat.le_trans hbase t01.size) tk.size
      have HB := Lib.hid (begin_any b _ cap cr dn fl kp zs ks wr hRk.disk (HRD.out.1.turn tw (fun hne => HRD.out.2.2.1 (by rintro rfl; exact hne rfl))) (HRD.out.2.1.turn tw (fun hne => HRD.out.2.2.2 (by rintro rfl; exact hne rfl))) (by omega) (by omega))
      have HT := Lib.hid (And.intro hRk (And.intro tw hbw))
      clear hR1 hbox hnb hrow hmem hwb hsz hbox2 tw hbw hRk tk hrel
      go_wp2_with fail
      refine HB.out.mono ?_
      rintro e w2 ⟨rfl, ao2, c2, ao3, c3, hd2, h2, h3, t2⟩
      obtain ⟨hRk, tw, hbw⟩ := HT.out
      have HE := Lib.hid (hRk.begun t2 cap cr dn zs ks ao2 ao3 c2 c3 hd2 h2 h3 hbw)
      have HT2 : Hid (Turn (foot b S) w w2) := Lib.hid (tw.trans (t2.mono (by intro x hx; simp at hx; subst hx; simp [foot])))
      have HN : Hid ((∀ g, (Value.slice ao2 zs.length c2).ownBlock = some g → w.heap.size ≤ g) ∧ ∀ g, (Value.slice ao3 ks.length c3).ownBlock = some g → w.heap.size ≤ g) := Lib.hid ⟨fun g hg => Nat.le_trans tw.size (h2.lt g hg).1, fun g hg => Nat.le_trans tw.size (h3.lt g hg).1⟩
      clear hRk tw hbw hd2 h2 h3 t2 HT HB p0 p1 p2 p3 p4
      go_wp2_with fail
      go_end0
      have HS2 := HS.out
      rw [HS2]
      exact ⟨rfl, _, _, _, HN.out, HE.out, rfl, HT2.out⟩
end Go.Proofs.YthcdkggkoanjpaaGreatDoor
namespace Go.Proofs.YthcdkggkoanjpaaGreatDoor
open Go.RowKit Go.Maps Go.Sort Go.WideMaps
theorem FileAt.reads {w : World} {base : Nat} {f : FM} (h : FileAt w base f) : ∃ v, FileC w f.blk v f.sy ∧ Reads w v (bv f.bytes) := by
  obtain ⟨ao, c, h1, h2, _⟩ := h
  exact ⟨_, h1, Reads.own (by simpa [bv_length] using h2)⟩
theorem read_ok (base b : Nat) (S : DM) (s : DS) (name : ByteArray) (f : FM) (w : World) (hR : Rep w base b S s) (hdw : S.dw = false) (hf : S.files.find? (named name.data.toList) = some f) (hl : name.size ≤ maxLen) (hbytes : f.bytes.length < 1000000000) :
    Calls Tryz.prog 32 #[theDisk b, .string name] w fun e w' => ∃ ao c, e = .returned (.tuple #[.slice ao f.bytes.length c, .int .i64 0]) ∧ w'.ownsRow w.heap.size 5 1 (.slice ao f.bytes.length c) f.bytes.length (bv f.bytes) ∧ w.grownBy w' none := by
  obtain ⟨hmem, hnm⟩ := find_mem hf
  obtain ⟨v, hfc, hr⟩ := (hR.files f hmem).reads
  have c8 := hR.disk.c8
  rw [hR.dw, hdw] at c8
  have c5 := hR.disk.c5
  have f0 := hfc.c0
  have hlk : (Instr.lookup 74 s.fs (.string name) false).run Tryz.prog w = .ok (.pointer (some ⟨f.blk, 0, none⟩)) w := by
    rw [hR.look name hl]; simp [ptrOf, hf]
  have hcp := copied_byte v f.bytes w hr (by omega)
  have hsh : ∃ aov nv cv, v = .slice aov nv cv := by obtain ⟨aov, cv, rfl, _⟩ := hr; exact ⟨_, _, _, rfl⟩
  obtain ⟨aov, nv, cv, rfl⟩ := hsh
  clear hR hdw hf hl hbytes hmem hnm hfc hr
  unfold theDisk
  go_enter Tryz.func32, Tryz.ntmps32
  go_wp2_with fail
  refine hcp.mono ?_
  rintro e w' ⟨ao, c, rfl, h1, h2⟩
  go_wp2
  go_ret2
  exact ⟨ao, c, rfl, h1, h2⟩
end Go.Proofs.YthcdkggkoanjpaaGreatDoor
