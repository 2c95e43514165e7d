/- Create, whatever the plan makes of it; disks of empty files. Numbers and types by name. -/
import Derived.Test.YtloccomlnnndoaaWr3
import Derived.Test.YtloccomlnnndoaaApt
namespace Go.Proofs.Ytloccomlnnndoaa
open Go.RowKit Go.Maps Go.Sort Go.WideMaps

/-- Create over what write does. -/
theorem create_via (b : Nat) (name : ByteArray) (w : World) (R : Int → World → Prop)
    (hw : ∀ W, W = (w.alloc (.cells #[theDisk b] 28)).alloc (.cells #[.string name] 9) →
      Calls Try.prog 40 #[theDisk b, .func (.func 41) #[] #[.pointer (some ⟨w.heap.size + 1, 0, none⟩), .pointer (some ⟨w.heap.size, 0, none⟩)]] W (Left R)) :
    Calls Try.prog 20 #[theDisk b, .string name] w (Left R) := by
  have hmf := hmf
  unfold theDisk at hw
  unfold theDisk
  go_enter Try.func20, Try.ntmps20
  go_wp2_with fail
  refine (hw _ rfl).mono ?_
  rintro e w' ⟨k, rfl, hk⟩
  have HK := Lib.hid hk
  clear hk hw
  go_wp2
  go_ret
  exact ⟨k, rfl, HK.out⟩

/-- A disk whose files are all empty: their names, the plan's crash, how many calls were counted, whether it is down. -/
structure Empt (S : DM) (names : List (List UInt8)) (k : Int) (done : Bool) (ca : Int) (dw : Bool) : Prop where
  names : S.files.map (·.name) = names
  bytes : ∀ f ∈ S.files, f.bytes = []
  fail : S.fail = []
  cr : S.cr = k
  dn : S.dn = done
  ca : S.ca = ca
  dw : S.dw = dw

def Ms (w : World) (base b : Nat) (names : List (List UInt8)) (k : Int) (done : Bool) (ca : Int) (dw : Bool) : Prop :=
  base ≤ w.heap.size ∧ ∃ S s, Rep w base b S s ∧ Empt S names k done ca dw

theorem Ms.new {w w' : World} {base b : Nat} {names : List (List UInt8)} {k : Int} {done : Bool} {ca : Int} {dw : Bool} (h : Ms w base b names k done ca dw) (t : Turn [] w w') : Ms w' base b names k done ca dw := by
  obtain ⟨h0, S, s, hR, h2⟩ := h
  exact ⟨Nat.le_trans h0 t.size, S, s, hR.new t, h2⟩
theorem Ms.lt {w : World} {base b : Nat} {names : List (List UInt8)} {k : Int} {done : Bool} {ca : Int} {dw : Bool} (h : Ms w base b names k done ca dw) : b < w.heap.size ∧ base ≤ b := by
  obtain ⟨h0, S, s, hR, _⟩ := h
  exact ⟨hR.disk.lt, hR.low b (by simp [foot])⟩

theorem total_empty {files : List FM} (h : ∀ f ∈ files, f.bytes = []) : total files = 0 := by
  induction files with
  | nil => rfl
  | cons a l ih =>
    have h1 := ih fun f hf => h f (List.mem_cons_of_mem _ hf)
    have h2 := h a (List.mem_cons_self)
    simp only [total] at h1
    simp [total, h2, h1]

theorem notNamed {S : DM} {names : List (List UInt8)} {k : Int} {done : Bool} {ca : Int} {dw : Bool} (h : Empt S names k done ca dw) {x : List UInt8} (hx : x ∉ names) : S.files.any (named x) = false := by
  cases e : S.files.any (named x) with
  | false => rfl
  | true =>
    obtain ⟨f, hf, hn⟩ := List.any_eq_true.1 e
    refine absurd ?_ hx
    rw [← h.names]
    exact List.mem_map.2 ⟨f, hf, by simpa [named] using hn⟩

/-- What lies in memory when the closure of Create runs. -/
theorem create_boxes {w w1 : World} {b : Nat} {name : ByteArray} (t1 : Turn [b] ((w.alloc (.cells #[theDisk b] 28)).alloc (.cells #[.string name] 9)) w1) (hbl : b < w.heap.size) :
    w1.cell? ⟨w.heap.size, 0, none⟩ = some (theDisk b) ∧ w1.cell? ⟨w.heap.size + 1, 0, none⟩ = some (.string name) ∧ w.heap.size ≤ w1.heap.size := by
  refine ⟨?_, ?_, ?_⟩
  · have h0 : ((w.alloc (.cells #[theDisk b] 28)).alloc (.cells #[.string name] 9)).heap[w.heap.size]? = some (.cells #[theDisk b] 28 (0, 0)) := by
      rw [Below.heap_alloc _ _ _ (by simp)]; exact heap_alloc_new _ _
    exact cells_of (t1.heap h0 (by simp; omega)) 0 _ rfl
  · have h0 : ((w.alloc (.cells #[theDisk b] 28)).alloc (.cells #[.string name] 9)).heap[w.heap.size + 1]? = some (.cells #[.string name] 9 (0, 0)) := by
      have := heap_alloc_new (w.alloc (.cells #[theDisk b] 28)) (.cells #[.string name] 9)
      simpa using this
    exact cells_of (t1.heap h0 (by simp; omega)) 0 _ rfl
  · have := t1.size; simp at this; omega

theorem mk_down (base b : Nat) (names : List (List UInt8)) (k : Int) (done : Bool) (ca : Int) (name : ByteArray) (w : World) (h : Ms w base b names k done ca true) :
    Calls Try.prog 20 #[theDisk b, .string name] w fun e w' => e = .returned (.int .i64 7) ∧ Ms w' base b names k done ca true ∧ Below base w w' := by
  have h1 := h
  obtain ⟨h0, S, s, hR, hE⟩ := h
  refine (create_via b name w (fun k w' => k = 7 ∧ Turn [] w w') ?_).mono ?_
  · rintro W rfl
    have t0 : Turn [] w ((w.alloc (.cells #[theDisk b] 28)).alloc (.cells #[.string name] 9)) := ((Turn.refl [] w).alloc _).alloc _
    refine (write_down base b _ _ S s _ (hR.new t0) hE.dw).mono ?_
    rintro e w' ⟨rfl, rfl⟩
    exact ⟨7, rfl, rfl, t0⟩
  · rintro e w' ⟨k, rfl, rfl, t⟩
    exact ⟨rfl, h1.new t, t.below h0 (by simp)⟩

theorem mk_crash (base b : Nat) (names : List (List UInt8)) (k : Int) (ca : Int) (name : ByteArray) (w : World) (h : Ms w base b names k false ca false) (hk : ca + 1 = k) (hc0 : 0 ≤ ca) (hc1 : ca < 1000000) :
    Calls Try.prog 20 #[theDisk b, .string name] w fun e w' => e = .returned (.int .i64 7) ∧ Ms w' base b names k false k true ∧ Below base w w' := by
  obtain ⟨h0, S, s, hR, hE⟩ := h
  refine (create_via b name w (fun k w' => k = 7 ∧ Turn [b] w w' ∧ Rep w' base b { S with ca := S.ca + 1, dw := true } { s with ca := S.ca + 1, dw := true }) ?_).mono ?_
  · rintro W rfl
    have t0 : Turn [] w ((w.alloc (.cells #[theDisk b] 28)).alloc (.cells #[.string name] 9)) := ((Turn.refl [] w).alloc _).alloc _
    refine (write_crash base b _ _ S s _ (hR.new t0) hE.dw (by rw [hE.ca, hE.cr]; exact hk) hE.dn (by rw [hE.ca]; exact hc0) (by rw [hE.ca]; exact hc1)).mono ?_
    rintro e w' ⟨rfl, h1, h2⟩
    exact ⟨7, rfl, rfl, (t0.mono (by simp)).trans h2, h1⟩
  · rintro e w' ⟨k, rfl, rfl, t, h1⟩
    have hl := hR.low b (by simp [foot])
    exact ⟨rfl, ⟨Nat.le_trans h0 t.size, _, _, h1, ⟨hE.names, hE.bytes, hE.fail, hE.cr, hE.dn, by show S.ca + 1 = _; rw [hE.ca, hk], rfl⟩⟩, t.below h0 (by simpa using hl)⟩

theorem made_names {S : DM} {names : List (List UInt8)} {k : Int} {done : Bool} {ca : Int} {dw : Bool} (hE : Empt S names k done ca dw) {f : FM} {x : List UInt8} (hf : f.name = x) (hb : f.bytes = []) (m : Nat) (ca' : Int) (dw' : Bool) :
    Empt { S with ca := ca', dw := dw', files := S.files ++ [f], mp := some m } (names ++ [x]) k done ca' dw' :=
  ⟨by simp [hE.names, hf], by
    intro g hg
    rcases List.mem_append.1 hg with hg | hg
    · exact hE.bytes g hg
    · rw [List.mem_singleton] at hg; subst hg; exact hb, hE.fail, hE.cr, hE.dn, rfl, rfl⟩

theorem mk_run (base b : Nat) (names : List (List UInt8)) (k : Int) (done : Bool) (ca : Int) (name : ByteArray) (w : World) (h : Ms w base b names k done ca false) (hk : ca + 1 ≠ k) (hc0 : 0 ≤ ca) (hc1 : ca < 1000000) (hne : name.toList.isEmpty = false) (hl : name.size ≤ maxLen) (hx : name.data.toList ∉ names) (hlen : names.length < maxLen) :
    Calls Try.prog 20 #[theDisk b, .string name] w fun e w' => e = .returned (.int .i64 0) ∧ Ms w' base b (names ++ [name.data.toList]) k done (ca + 1) false ∧ Below base w w' := by
  obtain ⟨h0, S, s, hR, hE⟩ := h
  have hlS : S.files.length < maxLen := by rw [← hE.names] at hlen; simpa using hlen
  refine (create_ok base b S s name w hR ⟨hE.dw, by rw [hE.ca, hE.cr]; exact hk, by simp [hE.fail], by rw [hE.ca]; exact hc0, by rw [hE.ca]; exact hc1, by simp [hE.fail]⟩ hne (notNamed hE hx) hl hlS h0).mono ?_
  rintro e w' ⟨k, rfl, rfl, f, m, s', h1, h2, h3, h4, h5, h6, h7, h8⟩
  have hb := below_turn hR h0 (h8.mono (by intro x hx; simp only [foot, List.mem_cons, List.mem_append] at hx ⊢; exact hx.imp id .inl))
  have hE2 := made_names hE h1 h2 m (S.ca + 1) false
  rw [← hE.dw] at hE2
  have e1 : ca + 1 = S.ca + 1 := by rw [hE.ca]
  rw [e1, ← hE.dw]
  exact ⟨rfl, ⟨Nat.le_trans h0 h8.size, _, s', h6, hE2⟩, hb⟩

theorem mk_done (base b : Nat) (names : List (List UInt8)) (k : Int) (ca : Int) (name : ByteArray) (w : World) (h : Ms w base b names k true ca false) (hk : ca + 1 = k) (hc0 : 0 ≤ ca) (hc1 : ca < 1000000) (hne : name.toList.isEmpty = false) (hl : name.size ≤ maxLen) (hx : name.data.toList ∉ names) (hlen : names.length < maxLen) :
    Calls Try.prog 20 #[theDisk b, .string name] w fun e w' => e = .returned (.int .i64 7) ∧ Ms w' base b (names ++ [name.data.toList]) k true k true ∧ Below base w w' := by
  obtain ⟨h0, S, s, hR, hE⟩ := h
  have hlS : S.files.length < maxLen := by rw [← hE.names] at hlen; simpa using hlen
  have hbl := hR.disk.lt
  refine (create_via b name w (fun q w' => q = 7 ∧ ∃ f m s', f.name = name.data.toList ∧ f.bytes = [] ∧ Rep w' base b { S with ca := S.ca + 1, dw := true, files := S.files ++ [f], mp := some m } s' ∧ Turn (b :: S.mp.toList) w w') ?_).mono ?_
  · rintro W rfl
    have t0 : Turn [] w ((w.alloc (.cells #[theDisk b] 28)).alloc (.cells #[.string name] 9)) := ((Turn.refl [] w).alloc _).alloc _
    refine (write_done base b _ _ S s (fun q w' => ∃ f m s', f.name = name.data.toList ∧ f.bytes = [] ∧ Rep w' base b { S with ca := S.ca + 1, dw := true, files := S.files ++ [f], mp := some m } s' ∧ Turn (b :: S.mp.toList) w w') _ (hR.new t0) hE.dw (by rw [hE.ca, hE.cr]; exact hk) hE.dn (by rw [hE.ca]; exact hc0) (by rw [hE.ca]; exact hc1) (enters_of Try.func41 (by kernel_rfl) rfl) ?_).mono ?_
    · intro w1 hR1 t1
      obtain ⟨hpd, hpn, hs1⟩ := create_boxes t1 hbl
      refine (create_new (w.heap.size + 1) w.heap.size base b _ _ name w1 hpn hpd hR1 hne (notNamed hE hx) hl hlS (Nat.le_trans h0 hs1)).mono ?_
      rintro e w' ⟨rfl, f, m, s', h1, h2, h3, h4, h5, h6, h7, h8⟩
      exact ⟨0, rfl, f, m, s', h1, h2, h6, (t0.mono (by simp)).trans ((t1.mono (by simp)).trans h8)⟩
    · rintro e w' ⟨rfl, q, f, m, s', h1, h2, h3, h4⟩
      exact ⟨7, rfl, rfl, f, m, s', h1, h2, h3, h4⟩
  · rintro e w' ⟨q, rfl, rfl, f, m, s', h1, h2, h6, h8⟩
    have hb := below_turn hR h0 (h8.mono (by intro x hx; simp only [foot, List.mem_cons, List.mem_append] at hx ⊢; exact hx.imp id .inl))
    have hE2 := made_names hE h1 h2 m (S.ca + 1) true
    have e1 : S.ca + 1 = k := by rw [hE.ca, hk]
    refine ⟨rfl, ⟨Nat.le_trans h0 h8.size, _, s', h6, ?_⟩, hb⟩
    rw [e1] at hE2 ⊢
    exact hE2

theorem new_ms (cap k : Int) (done : Bool) (w : World) :
    Calls Try.prog 14 #[.agg #[.int .i64 cap, .slice none 0 0, .int .i64 k, .bool done, .slice none 0 0]] w fun e w' => ∃ b, e = .returned (theDisk b) ∧ Ms w' w.heap.size b [] k done 0 false ∧ w.grownBy w' none := by
  refine (new_any cap k done (.slice none 0 0) (.slice none 0 0) [] [] w (Reads.nil w) (Reads.nil w) (by simp) (by simp)).mono ?_
  rintro e w' ⟨b, ao, c, ao', c', rfl, hb, hd, h1, h2, hg⟩
  refine ⟨b, rfl, ⟨hg.size, { cap := cap, cr := k, ca := 0, dn := done, dw := false, fail := [], keep := [], files := [], mp := none, fr := (Value.slice ao 0 c).ownBlock, kr := (Value.slice ao' 0 c').ownBlock }, { cap := cap, fl := .slice ao 0 c, cr := k, dn := done, kp := .slice ao' 0 c', fs := .map none, sz := 0, ca := 0, dw := false }, ?_, ⟨rfl, (by intro f hf; cases hf), rfl, rfl, rfl, rfl, rfl⟩⟩, hg⟩
  exact {
    disk := hd
    cap := rfl
    cr := rfl
    ca := rfl
    dn := rfl
    dw := rfl
    fs := rfl
    lists := ⟨ao, c, ao', c', rfl, rfl, by simpa [iv] using owns_base h1 (by omega), owns_base h2 (by omega), rfl, rfl,
      (fun g hg hm => by have h3 := (h1.lt g hg).1; simp [foot] at hm; omega), (fun g hg hm => by have h3 := (h2.lt g hg).1; simp [foot] at hm; omega)⟩
    mapN := fun _ => rfl
    mapS := fun m hm => by cases hm
    files := fun f hf => by cases hf
    apart1 := fun m hm => by cases hm
    apart2 := fun f hf => by cases hf
    apart3 := List.Pairwise.nil
    low := fun k hk => by simp [foot] at hk; omega
    names := List.nodup_nil
    sorted := List.Pairwise.nil }

/-- Read of a disk that is down. -/
theorem read_down (base b : Nat) (S : DM) (s : DS) (name : Value) (w : World) (hR : Rep w base b S s) (hdw : S.dw = true) :
    Calls Try.prog 24 #[theDisk b, name] w fun e w' => e = .returned (.tuple #[.slice none 0 0, .int .i64 7]) ∧ w = w' := by
  have c8 := hR.disk.c8
  rw [hR.dw, hdw] at c8
  clear hR
  unfold theDisk
  go_enter Try.func24, Try.ntmps24
  go_wp2
  go_ret2
  exact ⟨rfl, rfl⟩

theorem down_rep (base b : Nat) (S : DM) (s : DS) (w : World) (hR : Rep w base b S s) :
    Calls Try.prog 17 #[theDisk b] w fun e w' => e = .returned (.bool S.dw) ∧ w = w' := by
  have c8 := hR.disk.c8
  rw [hR.dw] at c8
  clear hR
  unfold theDisk
  go_enter Try.func17, Try.ntmps17
  go_wp2
  go_ret
  exact ⟨rfl, rfl⟩

theorem files_ms (base b : Nat) (names : List (List UInt8)) (k : Int) (done : Bool) (ca : Int) (dw : Bool) (w : World) (h : Ms w base b names k done ca dw) (hlen : names.length < 1000000) (hcap : ∀ x ∈ names, x.length ≤ maxLen) :
    Calls Try.prog 25 #[theDisk b] w fun e w' => ∃ ao c, e = .returned (.slice ao names.length c) ∧ w.grownBy w' none := by
  obtain ⟨h0, S, s, hR, hE⟩ := h
  have hl : S.files.length = names.length := by rw [← hE.names]; simp
  refine (files_any base b S s w hR (by rw [total_empty hE.bytes]; omega) (by omega) (fun f hf => hcap _ (by rw [← hE.names]; exact List.mem_map.2 ⟨f, hf, rfl⟩))).mono ?_
  rintro e w' ⟨ao, c, xs, rfl, hown, _, hg⟩
  exact ⟨ao, c, by rw [hl], hg⟩

end Go.Proofs.Ytloccomlnnndoaa
