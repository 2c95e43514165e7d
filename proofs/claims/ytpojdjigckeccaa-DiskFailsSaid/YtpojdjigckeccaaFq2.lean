/- Disks whose plans fail calls: Append, New. Numbers and types by name. -/
import Derived.Test.YtpojdjigckeccaaFq
namespace Go.Proofs.Ytpojdjigckeccaa
open Go.RowKit Go.Maps Go.Sort Go.WideMaps

theorem append_io (base b : Nat) (fs : List Ent) (cap ca : Int) (zs : List Int) (name : ByteArray) (aob : Option Addr) (nb cb : Nat) (w : World) (h : Fq w base b fs cap ca zs) (hca : ca < 999) (hz : zs.contains (ca + 1) = true) :
    Calls Try.prog 21 #[theDisk b, .string name, .slice aob nb cb] w fun e w' => e = .returned (.int .i64 6) ∧ Fq w' base b fs cap (ca + 1) zs ∧ Below base w w' := by
  obtain ⟨h0, S, s, hR, hs, hv, hc⟩ := h
  have hbl := hR.disk.lt
  refine (append_via b name aob nb cb w (fun k w' => k = 6 ∧ Rep w' base b { S with ca := S.ca + 1 } { s with ca := S.ca + 1 } ∧ Turn [b] w w') ?_).mono ?_
  · rintro W rfl
    have t0 : Turn [] w (((w.alloc (.cells #[theDisk b] 28)).alloc (.cells #[.string name] 9)).alloc (.cells #[.slice aob nb cb] 33)) := (((Turn.refl [] w).alloc _).alloc _).alloc _
    refine (write_io base b _ _ S s _ (hR.new t0) hc.dw (by rw [hc.ca, hc.cr]; have := hc.ca0; omega) (by rw [hc.has]; exact hz) (by rw [hc.ca]; exact hc.ca0) (by rw [hc.ca]; have := hc.ca1; omega) hc.flen).mono ?_
    rintro e w' ⟨rfl, h1, h2⟩
    exact ⟨6, rfl, rfl, h1, (t0.mono (by simp)).trans h2⟩
  · rintro e w' ⟨k, rfl, rfl, h1, t⟩
    have hl := hR.low b (by simp [foot])
    exact ⟨rfl, ⟨Nat.le_trans h0 t.size, _, _, h1, hs, hv, hc.next0 hca⟩, t.below h0 (by simpa using hl)⟩

theorem append_none (base b : Nat) (fs : List Ent) (cap ca : Int) (zs : List Int) (name : ByteArray) (aob : Option Addr) (nb cb : Nat) (w : World) (h : Fq w base b fs cap ca zs) (hca : ca < 999) (hz : zs.contains (ca + 1) = false) (hf : fs.find? (isName name.data.toList) = none) (hl : name.size ≤ maxLen) :
    Calls Try.prog 21 #[theDisk b, .string name, .slice aob nb cb] w fun e w' => e = .returned (.int .i64 3) ∧ Fq w' base b fs cap (ca + 1) zs ∧ Below base w w' := by
  obtain ⟨h0, S, s, hR, hs, hv, hc⟩ := h
  have hbl := hR.disk.lt
  have hr := hc.runs hz
  refine (append_via b name aob nb cb w (fun k w' => k = 3 ∧ Rep w' base b { S with ca := S.ca + 1 } { s with ca := S.ca + 1 } ∧ Turn [b] w w') ?_).mono ?_
  · rintro W rfl
    have t0 : Turn [] w (((w.alloc (.cells #[theDisk b] 28)).alloc (.cells #[.string name] 9)).alloc (.cells #[.slice aob nb cb] 33)) := (((Turn.refl [] w).alloc _).alloc _).alloc _
    refine write_run base b _ _ S s _ _ (hR.new t0) hr.dw hr.cr hr.fail hr.ca0 hr.ca1 hr.fl (enters_of Try.func43 (by kernel_rfl) rfl) ?_
    intro w1 hR1 t1
    obtain ⟨b1, b2, b3, b4⟩ := append_boxes t1 hbl
    refine (append_clo_none _ _ _ base b _ _ name _ w1 hR1 b1 b2 b3 (none_of_view hv hf) hl).mono ?_
    rintro e w' ⟨k, rfl, rfl, t⟩
    exact ⟨3, rfl, rfl, hR1.new t, b4.trans (t.mono (by simp))⟩
  · rintro e w' ⟨k, rfl, rfl, h1, t⟩
    have hl := hR.low b (by simp [foot])
    exact ⟨rfl, ⟨Nat.le_trans h0 t.size, _, _, h1, hs, hv, hc.next0 hca⟩, t.below h0 (by simpa using hl)⟩

theorem append_full (base b : Nat) (fs : List Ent) (nm l : List UInt8) (sy : Nat) (cap ca : Int) (zs : List Int) (name : ByteArray) (aob : Option Addr) (nb cb : Nat) (w : World) (h : Fq w base b fs cap ca zs) (hca : ca < 999) (hz : zs.contains (ca + 1) = false) (hf : fs.find? (isName name.data.toList) = some (nm, l, sy)) (hl : name.size ≤ maxLen)
    (hs1 : tot fs + nb < 1000000000) (hcap : cap < (tot fs : Int) + nb) :
    Calls Try.prog 21 #[theDisk b, .string name, .slice aob nb cb] w fun e w' => e = .returned (.int .i64 5) ∧ Fq w' base b fs cap (ca + 1) zs ∧ Below base w w' := by
  obtain ⟨h0, S, s, hR, hs, hv, hc⟩ := h
  have hbl := hR.disk.lt
  have hr := hc.runs hz
  have ht : tot fs = total S.files := by rw [← hv, tot_view]
  obtain ⟨f, hff, hn, hb, hsy⟩ := find_of_view hv hf
  refine (append_via b name aob nb cb w (fun k w' => k = 5 ∧ Rep w' base b { S with ca := S.ca + 1 } { s with ca := S.ca + 1 } ∧ Turn [b] w w') ?_).mono ?_
  · rintro W rfl
    have t0 : Turn [] w (((w.alloc (.cells #[theDisk b] 28)).alloc (.cells #[.string name] 9)).alloc (.cells #[.slice aob nb cb] 33)) := (((Turn.refl [] w).alloc _).alloc _).alloc _
    refine write_run base b _ _ S s _ _ (hR.new t0) hr.dw hr.cr hr.fail hr.ca0 hr.ca1 hr.fl (enters_of Try.func43 (by kernel_rfl) rfl) ?_
    intro w1 hR1 t1
    obtain ⟨b1, b2, b3, b4⟩ := append_boxes t1 hbl
    refine (append_clo_full _ _ _ base b _ _ name aob nb cb f w1 hR1 b1 b2 b3 hff hl hs (by show total S.files + nb < _; omega) (by show S.cap < ((total S.files : Nat) : Int) + _; rw [hc.cap, ← ht]; exact hcap)).mono ?_
    rintro e w' ⟨k, rfl, rfl, t⟩
    exact ⟨5, rfl, rfl, hR1.new t, b4.trans (t.mono (by simp))⟩
  · rintro e w' ⟨k, rfl, rfl, h1, t⟩
    have hl := hR.low b (by simp [foot])
    exact ⟨rfl, ⟨Nat.le_trans h0 t.size, _, _, h1, hs, hv, hc.next0 hca⟩, t.below h0 (by simpa using hl)⟩

theorem append_fq (base b : Nat) (fs : List Ent) (nm l : List UInt8) (sy : Nat) (cap ca : Int) (zs : List Int) (name : ByteArray) (vb : Value) (l2 : List UInt8) (w : World) (h : Fq w base b fs cap ca zs) (hca : ca < 999) (hz : zs.contains (ca + 1) = false) (hf : fs.find? (isName name.data.toList) = some (nm, l, sy)) (hl : name.size ≤ maxLen) (hv : Reads w vb (bv l2)) (hvb : bv l2 ≠ [] → ∀ a n c, vb = .slice (some a) n c → a.block ≠ b)
    (hs1 : tot fs + l2.length < 1000000000) (hcap : (tot fs : Int) + l2.length ≤ cap) :
    Calls Try.prog 21 #[theDisk b, .string name, vb] w fun e w' => e = .returned (.int .i64 0) ∧ Fq w' base b (fs.map fun x => if isName name.data.toList x = true then (x.1, x.2.1 ++ l2, x.2.2) else x) cap (ca + 1) zs ∧ Below base w w' := by
  obtain ⟨h0, S, s, hR, hs, hw, hc⟩ := h
  obtain ⟨f, hff, hn, hb, hsy⟩ := find_of_view hw hf
  have ht : tot fs = total S.files := by rw [← hw, tot_view]
  refine (append_ok base b S s name vb l2 f w hR (hc.runs hz) hff hl hv hvb hs (by omega) (by rw [hc.cap]; omega) h0 (le_total (find_mem hff).1)).mono ?_
  rintro e w' ⟨k, rfl, rfl, row, s', h1, h2, h3⟩
  refine ⟨rfl, ⟨Nat.le_trans h0 h3.size, _, s', h1, ?_, ?_, hc.next hca _ S.mp⟩, below_turn hR h0 h3⟩
  · have := total_mapF name.data.toList (addTo l2 row) S.files f hff hR.names
    rw [show (addTo l2 row f).bytes.length = f.bytes.length + l2.length from List.length_append] at this
    rw [h2, hs]
    show ((total S.files : Nat) : Int) + _ = ((total (mapF name.data.toList (addTo l2 row) S.files) : Nat) : Int)
    omega
  · show (mapF name.data.toList (addTo l2 row) S.files).map view = _
    rw [map_mapF _ _ (fun x => (x.1, x.2.1 ++ l2, x.2.2)) (fun _ => rfl), hw]

theorem new_fq (cap : Int) (fl : Value) (zs : List Int) (w : World) (hf : Reads w fl (iv zs)) (hz : zs.length < 1000) :
    Calls Try.prog 14 #[.agg #[.int .i64 cap, fl, .int .i64 0, .bool false, .slice none 0 0]] w fun e w' => ∃ b, e = .returned (theDisk b) ∧ Fq w' w.heap.size b [] cap 0 zs ∧ w.grownBy w' none := by
  refine (new_any cap 0 false fl (.slice none 0 0) zs [] w hf (Reads.nil w) (by omega) (by simp)).mono ?_
  rintro e w' ⟨b, ao, c, ao', c', rfl, hb, hd, h1, h2, hg⟩
  have hl : (zs.mergeSort leI).length = zs.length := by simp
  refine ⟨b, rfl, ⟨hg.size, { cap := cap, cr := 0, ca := 0, dn := false, dw := false, fail := zs.mergeSort leI, keep := [], files := [], mp := none, fr := (Value.slice ao zs.length c).ownBlock, kr := (Value.slice ao' 0 c').ownBlock }, { cap := cap, fl := .slice ao zs.length c, cr := 0, dn := false, kp := .slice ao' 0 c', fs := .map none, sz := 0, ca := 0, dw := false }, ?_, rfl, rfl, ⟨rfl, rfl, rfl, by omega, by omega, rfl, rfl, hz⟩⟩, hg⟩
  exact {
    disk := hd
    cap := rfl
    cr := rfl
    ca := rfl
    dn := rfl
    dw := rfl
    fs := rfl
    lists := ⟨ao, c, ao', c', by rw [hl], rfl, by rw [hl]; exact owns_base h1 (by omega), owns_base h2 (by omega), by rw [hl], rfl,
      (fun g hg hm => by have h3 := (h1.lt g hg).1; simp [foot] at hm; omega), (fun g hg hm => by have h3 := (h2.lt g hg).1; simp [foot] at hm; omega)⟩
    mapN := fun _ => rfl
    mapS := fun m hm => by cases hm
    files := fun f hf => by cases hf
    apart1 := fun m hm => by cases hm
    apart2 := fun f hf => by cases hf
    apart3 := List.Pairwise.nil
    low := fun k hk => by simp [foot] at hk; omega
    names := List.nodup_nil
    sorted := sorted_leI zs }

theorem read_fq (base b : Nat) (fs : List Ent) (nm l : List UInt8) (sy : Nat) (cap ca : Int) (zs : List Int) (name : ByteArray) (w : World) (h : Fq w base b fs cap ca zs) (hf : fs.find? (isName name.data.toList) = some (nm, l, sy)) (hl : name.size ≤ maxLen) (hlen : l.length < 1000000000) :
    Calls Try.prog 24 #[theDisk b, .string name] w fun e w' => ∃ ao c, e = .returned (.tuple #[.slice ao l.length c, .int .i64 0]) ∧ w.grownBy w' none := by
  obtain ⟨h0, S, s, hR, hs, hw, hc⟩ := h
  obtain ⟨f, hff, hn, hb, hsy⟩ := find_of_view hw hf
  refine (read_ok base b S s name f w hR hc.dw hff hl (by rw [hb]; exact hlen)).mono ?_
  rintro e w' ⟨ao, c, rfl, _, hg⟩
  exact ⟨ao, c, by rw [hb], hg⟩

end Go.Proofs.Ytpojdjigckeccaa
