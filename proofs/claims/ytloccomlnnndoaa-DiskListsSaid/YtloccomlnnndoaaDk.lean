/- Disks by what they hold: a list of names, bytes, and how many are synced. Numbers and types by name. -/
import Derived.Test.YtloccomlnnndoaaRen
namespace Go.Proofs.Ytloccomlnnndoaa
open Go.RowKit Go.Maps Go.Sort Go.WideMaps

abbrev Ent := List UInt8 × List UInt8 × Nat
def view (f : FM) : Ent := (f.name, f.bytes, f.sy)
def isName (k : List UInt8) (x : Ent) : Bool := x.1 == k
def tot (fs : List Ent) : Nat := (fs.map fun x => x.2.1.length).sum

def Dk (w : World) (base b : Nat) (fs : List Ent) (cap ca : Int) (keep : List Int) : Prop :=
  base ≤ w.heap.size ∧ ∃ S s, Rep w base b S s ∧ s.sz = total S.files ∧ S.files.map view = fs ∧ CalmD S cap ca keep

theorem Dk.new {w w' : World} {base b : Nat} {fs : List Ent} {cap ca : Int} {keep : List Int} (h : Dk w base b fs cap ca keep) (t : Turn [] w w') : Dk w' base b fs cap ca keep := by
  obtain ⟨h0, S, s, hR, h2⟩ := h
  exact ⟨Nat.le_trans h0 t.size, S, s, hR.new t, h2⟩
theorem Dk.lt {w : World} {base b : Nat} {fs : List Ent} {cap ca : Int} {keep : List Int} (h : Dk w base b fs cap ca keep) : b < w.heap.size ∧ base ≤ b := by
  obtain ⟨h0, S, s, hR, _⟩ := h
  exact ⟨hR.disk.lt, hR.low b (by simp [foot])⟩

theorem tot_view (files : List FM) : tot (files.map view) = total files := by
  simp [tot, total, view, Function.comp_def]
theorem find_view (k : List UInt8) (files : List FM) : (files.map view).find? (isName k) = (files.find? (named k)).map view := by
  rw [List.find?_map]; rfl
theorem any_view (k : List UInt8) (files : List FM) : (files.map view).any (isName k) = files.any (named k) := by
  rw [List.any_map]; rfl
theorem find_of_view {k : List UInt8} {files : List FM} {fs : List Ent} {nm l : List UInt8} {sy : Nat} (h : files.map view = fs) (hf : fs.find? (isName k) = some (nm, l, sy)) : ∃ f, files.find? (named k) = some f ∧ f.name = nm ∧ f.bytes = l ∧ f.sy = sy := by
  rw [← h, find_view] at hf
  cases e : files.find? (named k) with
  | none => rw [e] at hf; cases hf
  | some f =>
    rw [e] at hf
    simp only [Option.map_some, Option.some.injEq, view, Prod.mk.injEq] at hf
    exact ⟨f, rfl, hf.1, hf.2.1, hf.2.2⟩
theorem none_of_view {k : List UInt8} {files : List FM} {fs : List Ent} (h : files.map view = fs) (hf : fs.find? (isName k) = none) : files.find? (named k) = none := by
  rw [← h, find_view] at hf
  simpa using hf

theorem map_mapF (k : List UInt8) (u : FM → FM) (v : Ent → Ent) (huv : ∀ g, view (u g) = v (view g)) (files : List FM) : (mapF k u files).map view = (files.map view).map fun x => if isName k x = true then v x else x := by
  unfold mapF
  rw [List.map_map, List.map_map]
  apply List.map_congr_left
  intro g _
  simp only [Function.comp]
  have : isName k (view g) = named k g := rfl
  rw [this]
  split
  · exact huv g
  · rfl
theorem map_without (k : List UInt8) (files : List FM) : (without k files).map view = (files.map view).filter fun x => !isName k x := by
  unfold without
  rw [List.filter_map]
  rfl

theorem dk_zero {w : World} {base b : Nat} {cap ca : Int} {keep : List Int} (h : Zero w base b cap ca keep) : Dk w base b [] cap ca keep := by
  obtain ⟨h0, S, s, hR, hs, hf, hc⟩ := h
  exact ⟨h0, S, s, hR, by rw [hs, hf]; rfl, by rw [hf]; rfl, hc⟩

theorem create_dk (base b : Nat) (fs : List Ent) (cap ca : Int) (keep : List Int) (name : ByteArray) (w : World) (h : Dk w base b fs cap ca keep) (hca : ca < 999) (hne : name.toList.isEmpty = false) (hl : name.size ≤ maxLen) (hno : fs.any (isName name.data.toList) = false) (hlen : fs.length < maxLen) :
    Calls Try.prog 20 #[theDisk b, .string name] w fun e w' => e = .returned (.int .i64 0) ∧ Dk w' base b (fs ++ [(name.data.toList, [], 0)]) cap (ca + 1) keep ∧ Below base w w' := by
  obtain ⟨h0, S, s, hR, hs, hv, hc⟩ := h
  refine (create_ok base b S s name w hR hc.runs hne (by rw [← any_view, hv]; exact hno) hl (by rw [← hv] at hlen; simpa using hlen) h0).mono ?_
  rintro e w' ⟨k, rfl, rfl, f, m, s', h1, h2, h3, h4, h5, h6, h7, h8⟩
  have hb := below_turn hR h0 (h8.mono (by intro x hx; simp only [foot, List.mem_cons, List.mem_append] at hx ⊢; exact hx.imp id .inl))
  refine ⟨rfl, ⟨Nat.le_trans h0 h8.size, _, s', h6, ?_, ?_, ⟨hc.cap, hc.cr, by show S.ca + 1 = _; rw [hc.ca], by have := hc.ca0; omega, by omega, hc.dw, hc.fail, hc.keep⟩⟩, hb⟩
  · rw [h7, hs]
    show ((total S.files : Nat) : Int) = ((total (S.files ++ [f]) : Nat) : Int)
    simp [total, h2]
  · show (S.files ++ [f]).map view = _
    rw [List.map_append, hv]
    simp [view, h1, h2, h3]

theorem append_dk (base b : Nat) (fs : List Ent) (nm l : List UInt8) (sy : Nat) (cap ca : Int) (keep : List Int) (name : ByteArray) (vb : Value) (l2 : List UInt8) (w : World) (h : Dk w base b fs cap ca keep) (hca : ca < 999) (hf : fs.find? (isName name.data.toList) = some (nm, l, sy)) (hl : name.size ≤ maxLen) (hv : Reads w vb (bv l2)) (hvb : bv l2 ≠ [] → ∀ a n c, vb = .slice (some a) n c → a.block ≠ b)
    (hs1 : tot fs + l2.length < 1000000000) (hcap : (tot fs : Int) + l2.length ≤ cap) :
    Calls Try.prog 21 #[theDisk b, .string name, vb] w fun e w' => e = .returned (.int .i64 0) ∧ Dk w' base b (fs.map fun x => if isName name.data.toList x = true then (x.1, x.2.1 ++ l2, x.2.2) else x) cap (ca + 1) keep ∧ Below base w w' := by
  obtain ⟨h0, S, s, hR, hs, hw, hc⟩ := h
  obtain ⟨f, hff, hn, hb, hsy⟩ := find_of_view hw hf
  have ht : tot fs = total S.files := by rw [← hw, tot_view]
  refine (append_ok base b S s name vb l2 f w hR hc.runs hff hl hv hvb hs (by omega) (by rw [hc.cap]; omega) h0 (le_total (find_mem hff).1)).mono ?_
  rintro e w' ⟨k, rfl, rfl, row, s', h1, h2, h3⟩
  refine ⟨rfl, ⟨Nat.le_trans h0 h3.size, _, s', h1, ?_, ?_, ⟨hc.cap, hc.cr, by show S.ca + 1 = _; rw [hc.ca], by have := hc.ca0; omega, by omega, hc.dw, hc.fail, hc.keep⟩⟩, below_turn hR h0 h3⟩
  · have := total_mapF name.data.toList (addTo l2 row) S.files f hff hR.names
    rw [show (addTo l2 row f).bytes.length = f.bytes.length + l2.length from List.length_append] at this
    rw [h2, hs]
    show ((total S.files : Nat) : Int) + _ = ((total (mapF name.data.toList (addTo l2 row) S.files) : Nat) : Int)
    omega
  · show (mapF name.data.toList (addTo l2 row) S.files).map view = _
    rw [map_mapF _ _ (fun x => (x.1, x.2.1 ++ l2, x.2.2)) (fun _ => rfl), hw]

theorem sync_dk (base b : Nat) (fs : List Ent) (nm l : List UInt8) (sy : Nat) (cap ca : Int) (keep : List Int) (name : ByteArray) (w : World) (h : Dk w base b fs cap ca keep) (hca : ca < 999) (hf : fs.find? (isName name.data.toList) = some (nm, l, sy)) (hl : name.size ≤ maxLen) :
    Calls Try.prog 22 #[theDisk b, .string name] w fun e w' => e = .returned (.int .i64 0) ∧ Dk w' base b (fs.map fun x => if isName name.data.toList x = true then (x.1, x.2.1, x.2.1.length) else x) cap (ca + 1) keep ∧ Below base w w' := by
  obtain ⟨h0, S, s, hR, hs, hw, hc⟩ := h
  obtain ⟨f, hff, hn, hb, hsy⟩ := find_of_view hw hf
  refine (sync_ok base b S s name f w hR hc.runs hff hl h0).mono ?_
  rintro e w' ⟨k, rfl, rfl, s', h1, h2, h3⟩
  refine ⟨rfl, ⟨Nat.le_trans h0 h3.size, _, s', h1, ?_, ?_, ⟨hc.cap, hc.cr, by show S.ca + 1 = _; rw [hc.ca], by have := hc.ca0; omega, by omega, hc.dw, hc.fail, hc.keep⟩⟩, below_turn hR h0 h3⟩
  · have := total_mapF name.data.toList synced S.files f hff hR.names
    rw [show (synced f).bytes.length = f.bytes.length from rfl] at this
    rw [h2, hs]
    show ((total S.files : Nat) : Int) = ((total (mapF name.data.toList synced S.files) : Nat) : Int)
    omega
  · show (mapF name.data.toList synced S.files).map view = _
    rw [map_mapF _ _ (fun x => (x.1, x.2.1, x.2.1.length)) (fun _ => rfl), hw]

theorem rename_dk (base b : Nat) (fs : List Ent) (nm l : List UInt8) (sy : Nat) (cap ca : Int) (keep : List Int) (src dst : ByteArray) (w : World) (h : Dk w base b fs cap ca keep) (hca : ca < 999) (hf : fs.find? (isName src.data.toList) = some (nm, l, sy)) (hne : dst.toList.isEmpty = false) (hst : (src.toList == dst.toList) = false) (hst2 : src.data.toList ≠ dst.data.toList) (hl : src.size ≤ maxLen) (hl2 : dst.size ≤ maxLen)
    (hs1 : tot fs < 1000000000) (hlen : fs.length < maxLen) :
    Calls Try.prog 27 #[theDisk b, .string src, .string dst] w fun e w' => e = .returned (.int .i64 0) ∧ Dk w' base b (((fs.filter fun x => !isName dst.data.toList x).filter fun x => !isName src.data.toList x) ++ [(dst.data.toList, l, sy)]) cap (ca + 1) keep ∧ Below base w w' := by
  obtain ⟨h0, S, s, hR, hs, hw, hc⟩ := h
  obtain ⟨f, hff, hn, hb, hsy⟩ := find_of_view hw hf
  have ht : tot fs = total S.files := by rw [← hw, tot_view]
  refine (rename_ok base b S s src dst f w hR hc.runs hff hne hst hst2 hl hl2 hs (by omega) h0 (by rw [← hw] at hlen; simpa using hlen)).mono ?_
  rintro e w' ⟨k, rfl, rfl, m, s', h1, h2, h3⟩
  refine ⟨rfl, ⟨Nat.le_trans h0 h3.size, _, s', h1, ?_, ?_, ⟨hc.cap, hc.cr, by show S.ca + 1 = _; rw [hc.ca], by have := hc.ca0; omega, by omega, hc.dw, hc.fail, hc.keep⟩⟩, below_turn hR h0 h3⟩
  · have hnd : ((without dst.data.toList S.files).map (·.name)).Nodup := hR.names.sublist (List.filter_sublist.map _)
    have := total_without src.data.toList (without dst.data.toList S.files) f (find_keep hff hst2) hnd
    rw [h2]
    show _ = ((total (renamed src.data.toList dst.data.toList f S.files) : Nat) : Int)
    simp only [renamed, total, List.map_append, List.map_cons, List.map_nil, List.sum_append, List.sum_cons, List.sum_nil] at this ⊢
    omega
  · show (renamed src.data.toList dst.data.toList f S.files).map view = _
    rw [renamed, List.map_append, map_without, map_without, hw]
    simp [view, hb, hsy]

theorem resF_synced (keep : List Int) (ss : List (List UInt8)) (files : List FM) (h : ∀ f ∈ files, f.sy = f.bytes.length) (k : Nat) : resF keep ss files k = files := by
  induction k with
  | zero => rfl
  | succ k ih =>
    rw [resF, ih]
    unfold mapF
    conv => rhs; rw [← List.map_id files]
    apply List.map_congr_left
    intro g hg
    split
    · simp [survive, h g hg]
      rw [← h g hg]
    · rfl

/-- A restart of a disk all of whose bytes are synced. -/
theorem restart_dk (base b : Nat) (fs : List Ent) (cap ca : Int) (keep : List Int) (cap2 : Int) (w : World) (h : Dk w base b fs cap ca keep) (hsy : ∀ x ∈ fs, x.2.2 = x.2.1.length) (hs1 : tot fs < 1000000000) (hlen : fs.length < 1000000) (hkl : keep.length < 1000000) (hcapl : ∀ x ∈ fs, x.1.length ≤ maxLen) :
    Calls Try.prog 23 #[theDisk b, .agg #[.int .i64 cap2, .slice none 0 0, .int .i64 0, .bool false, .slice none 0 0]] w fun e w' => e = .returned (.tuple #[]) ∧ Dk w' base b fs cap2 0 [] ∧ Below base w w' := by
  obtain ⟨h0, S, s, hR, hs, hw, hc⟩ := h
  have ht : tot fs = total S.files := by rw [← hw, tot_view]
  have hsyn : ∀ f ∈ S.files, f.sy = f.bytes.length := fun f hf => hsy (view f) (by rw [← hw]; exact List.mem_map.2 ⟨f, hf, rfl⟩)
  refine (restart_any base b S s cap2 0 false (.slice none 0 0) (.slice none 0 0) [] [] w hR hs (by omega) (by rw [← hw] at hlen; simpa using hlen) (by rw [hc.keep]; exact hkl) (Reads.nil w) (Reads.nil w) (by intro a n c e; cases e) (by intro a n c e; cases e) (by simp) (by simp) h0 (fun f hf => hcapl (view f) (by rw [← hw]; exact List.mem_map.2 ⟨f, hf, rfl⟩))).mono ?_
  rintro e w' ⟨rfl, s', fr, kr, h1, h2, h3⟩
  rw [resF_synced _ _ _ hsyn] at h1 h2
  exact ⟨rfl, ⟨Nat.le_trans h0 h3.size, _, s', h1, h2, hw, ⟨rfl, rfl, rfl, by omega, by omega, rfl, by simp, rfl⟩⟩, below_turn hR h0 h3⟩

theorem read_dk (base b : Nat) (fs : List Ent) (nm l : List UInt8) (sy : Nat) (cap ca : Int) (keep : List Int) (name : ByteArray) (w : World) (h : Dk w base b fs cap ca keep) (hf : fs.find? (isName name.data.toList) = some (nm, l, sy)) (hl : name.size ≤ maxLen) (hlen : l.length < 1000000000) :
    Calls Try.prog 24 #[theDisk b, .string name] w fun e w' => ∃ ao c, e = .returned (.tuple #[.slice ao l.length c, .int .i64 0]) ∧ w'.ownsRow w.heap.size 5 1 (.slice ao l.length c) l.length (bv l) ∧ w.grownBy w' none := by
  obtain ⟨h0, S, s, hR, hs, hw, hc⟩ := h
  obtain ⟨f, hff, hn, hb, hsy⟩ := find_of_view hw hf
  have := read_ok base b S s name f w hR hc.dw hff hl (by rw [hb]; exact hlen)
  rw [hb] at this
  exact this

/-- A file that is not there. -/
theorem read_none (base b : Nat) (S : DM) (s : DS) (name : ByteArray) (w : World) (hR : Rep w base b S s) (hdw : S.dw = false) (hf : S.files.find? (named name.data.toList) = none) (hl : name.size ≤ maxLen) :
    Calls Try.prog 24 #[theDisk b, .string name] w fun e w' => e = .returned (.tuple #[.slice none 0 0, .int .i64 3]) ∧ w = w' := by
  have c8 := hR.disk.c8
  rw [hR.dw, hdw] at c8
  have c5 := hR.disk.c5
  have hlk : (Instr.lookup 63 s.fs (.string name) false).run Try.prog w = .ok (.pointer none) w := by
    rw [hR.look name hl]; simp [ptrOf, hf]
  clear hR hdw hf hl
  unfold theDisk
  go_enter Try.func24, Try.ntmps24
  go_wp2
  go_ret2
  exact ⟨rfl, rfl⟩

theorem read_none_dk (base b : Nat) (fs : List Ent) (cap ca : Int) (keep : List Int) (name : ByteArray) (w : World) (h : Dk w base b fs cap ca keep) (hf : fs.find? (isName name.data.toList) = none) (hl : name.size ≤ maxLen) :
    Calls Try.prog 24 #[theDisk b, .string name] w fun e w' => e = .returned (.tuple #[.slice none 0 0, .int .i64 3]) ∧ w = w' := by
  obtain ⟨h0, S, s, hR, hs, hw, hc⟩ := h
  exact read_none base b S s name w hR hc.dw (none_of_view hw hf) hl

theorem files_dk (base b : Nat) (fs : List Ent) (cap ca : Int) (keep : List Int) (w : World) (h : Dk w base b fs cap ca keep) (hs1 : tot fs < 1000000000) (hlen : fs.length < 1000000) (hcapl : ∀ x ∈ fs, x.1.length ≤ maxLen) :
    Calls Try.prog 25 #[theDisk b] w fun e w' => ∃ ao c, e = .returned (.slice ao fs.length c) ∧ w.grownBy w' none := by
  obtain ⟨h0, S, s, hR, hs, hw, hc⟩ := h
  have ht : tot fs = total S.files := by rw [← hw, tot_view]
  have hl : S.files.length = fs.length := by rw [← hw]; simp
  refine (files_any base b S s w hR (by omega) (by omega) (fun f hf => hcapl (view f) (by rw [← hw]; exact List.mem_map.2 ⟨f, hf, rfl⟩))).mono ?_
  rintro e w' ⟨ao, c, xs, rfl, hown, _, hg⟩
  exact ⟨ao, c, by rw [hl], hg⟩

end Go.Proofs.Ytloccomlnnndoaa
