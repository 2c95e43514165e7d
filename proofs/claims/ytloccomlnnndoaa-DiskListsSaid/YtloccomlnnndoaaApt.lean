/- Disks of which it is known where they lie. Numbers and types by name. -/
import Derived.Test.YtloccomlnnndoaaAp4
import Derived.Test.YtloccomlnnndoaaKee
namespace Go.Proofs.Ytloccomlnnndoaa
open Go.RowKit Go.Maps Go.Sort Go.WideMaps

/-- All blocks of a disk. -/
def blocks (b : Nat) (S : DM) : List Nat := foot b S ++ (S.fr.toList ++ S.kr.toList)

theorem Rep.listsLt {w : World} {base b : Nat} {S : DM} {s : DS} (h : Rep w base b S s) : ∀ k ∈ S.fr.toList ++ S.kr.toList, k < w.heap.size ∧ ∃ c t f, w.heap[k]? = some (.cells c t f) := by
  obtain ⟨ao, c, ao', c', h1, h2, h3, h4, h5, h6, h7, h8⟩ := h.lists
  have key : ∀ (v : Value) (n : Nat) (xs : List Value), w.ownsRow base 3 1 v n xs → ∀ k, v.ownBlock = some k → k < w.heap.size ∧ ∃ c t f, w.heap[k]? = some (.cells c t f) := by
    intro v n xs ho k hk
    refine ⟨(ho.lt k hk).2, ?_⟩
    rcases ho.2 with ⟨rfl, _⟩ | ⟨g, cap, cur, rfl, _, hg, _⟩
    · cases hk
    · cases hk; exact ⟨_, _, _, hg⟩
  intro k hk
  simp only [List.mem_append, Option.mem_toList] at hk
  rcases hk with hk | hk
  · exact key _ _ _ h3 k (h5.trans hk)
  · exact key _ _ _ h4 k (h6.trans hk)

theorem Rep.blocksLt {w : World} {base b : Nat} {S : DM} {s : DS} (h : Rep w base b S s) : ∀ k ∈ blocks b S, k < w.heap.size := by
  intro k hk
  rcases List.mem_append.1 hk with hk | hk
  · exact h.lt k hk
  · exact (h.listsLt k hk).1

theorem Rep.away {w w' : World} {base b : Nat} {S : DM} {s : DS} (h : Rep w base b S s) {F : List Nat} (t : Turn F w w') (hF : ∀ k ∈ blocks b S, k ∉ F) : Rep w' base b S s :=
  h.keep t (fun k hk => hF k (List.mem_append_left _ hk)) (fun g hg => hF g (by simp [blocks, hg])) (fun g hg => hF g (by simp [blocks, hg]))

/-- A disk of no file, that lies within P. -/
def ZeroP (w : World) (base b : Nat) (cap ca : Int) (keep : List Int) (P : Nat → Prop) : Prop := base ≤ w.heap.size ∧ ∃ S s, Rep w base b S s ∧ s.sz = 0 ∧ S.files = [] ∧ CalmD S cap ca keep ∧ S.mp = none ∧ ∀ k ∈ blocks b S, P k
def OneP (w : World) (base b : Nat) (nm l : List UInt8) (sy : Nat) (cap ca : Int) (keep : List Int) (P : Nat → Prop) : Prop :=
  base ≤ w.heap.size ∧ ∃ S s f, Rep w base b S s ∧ s.sz = l.length ∧ S.files = [f] ∧ f.name = nm ∧ f.bytes = l ∧ f.sy = sy ∧ CalmD S cap ca keep ∧ ∀ k ∈ blocks b S, P k

theorem OneP.one {w : World} {base b : Nat} {nm l : List UInt8} {sy : Nat} {cap ca : Int} {keep : List Int} {P : Nat → Prop} (h : OneP w base b nm l sy cap ca keep P) : One w base b nm l sy cap ca keep := by
  obtain ⟨h0, S, s, f, hR, hs, hf, hn, hb, hsy, hc, _⟩ := h
  exact ⟨h0, S, s, f, hR, hs, hf, hn, hb, hsy, hc⟩
theorem OneP.mono {w : World} {base b : Nat} {nm l : List UInt8} {sy : Nat} {cap ca : Int} {keep : List Int} {P Q : Nat → Prop} (h : OneP w base b nm l sy cap ca keep P) (hPQ : ∀ k, k < w.heap.size → P k → Q k) : OneP w base b nm l sy cap ca keep Q := by
  obtain ⟨h0, S, s, f, hR, hs, hf, hn, hb, hsy, hc, hP⟩ := h
  exact ⟨h0, S, s, f, hR, hs, hf, hn, hb, hsy, hc, fun k hk => hPQ k (hR.blocksLt k hk) (hP k hk)⟩
theorem OneP.away {w w' : World} {base b : Nat} {nm l : List UInt8} {sy : Nat} {cap ca : Int} {keep : List Int} {P : Nat → Prop} (h : OneP w base b nm l sy cap ca keep P) {F : List Nat} (t : Turn F w w') (hF : ∀ k, P k → k ∉ F) : OneP w' base b nm l sy cap ca keep P := by
  obtain ⟨h0, S, s, f, hR, hs, hf, hn, hb, hsy, hc, hP⟩ := h
  exact ⟨Nat.le_trans h0 t.size, S, s, f, hR.away t (fun k hk => hF k (hP k hk)), hs, hf, hn, hb, hsy, hc, hP⟩
theorem ZeroP.zero {w : World} {base b : Nat} {cap ca : Int} {keep : List Int} {P : Nat → Prop} (h : ZeroP w base b cap ca keep P) : Zero w base b cap ca keep := by
  obtain ⟨h0, S, s, hR, hs, hf, hc, _⟩ := h
  exact ⟨h0, S, s, hR, hs, hf, hc⟩
theorem ZeroP.mono {w : World} {base b : Nat} {cap ca : Int} {keep : List Int} {P Q : Nat → Prop} (h : ZeroP w base b cap ca keep P) (hPQ : ∀ k, k < w.heap.size → (∃ c t f, w.heap[k]? = some (.cells c t f)) → P k → Q k) : ZeroP w base b cap ca keep Q := by
  obtain ⟨h0, S, s, hR, hs, hf, hc, hm, hP⟩ := h
  refine ⟨h0, S, s, hR, hs, hf, hc, hm, fun k hk => hPQ k (hR.blocksLt k hk) ?_ (hP k hk)⟩
  rcases List.mem_append.1 hk with hk | hk
  · simp only [foot, hm, hf, Option.toList_none, List.flatMap_nil, List.nil_append, List.mem_cons, List.not_mem_nil, or_false] at hk
    subst hk
    exact ⟨_, _, _, hR.disk⟩
  · exact (hR.listsLt k hk).2
theorem ZeroP.away {w w' : World} {base b : Nat} {cap ca : Int} {keep : List Int} {P : Nat → Prop} (h : ZeroP w base b cap ca keep P) {F : List Nat} (t : Turn F w w') (hF : ∀ k, P k → k ∉ F) : ZeroP w' base b cap ca keep P := by
  obtain ⟨h0, S, s, hR, hs, hf, hc, hm, hP⟩ := h
  exact ⟨Nat.le_trans h0 t.size, S, s, hR.away t (fun k hk => hF k (hP k hk)), hs, hf, hc, hm, hP⟩

theorem new_zeroP (cap : Int) (w : World) :
    Calls Try.prog 14 #[.agg #[.int .i64 cap, .slice none 0 0, .int .i64 0, .bool false, .slice none 0 0]] w fun e w' => ∃ b, e = .returned (theDisk b) ∧ ZeroP w' w.heap.size b cap 0 [] (fun k => w.heap.size ≤ k) ∧ w.grownBy w' none := by
  refine (new_any cap 0 false (.slice none 0 0) (.slice none 0 0) [] [] w (Reads.nil w) (Reads.nil w) (by simp) (by simp)).mono ?_
  rintro e w' ⟨b, ao, c, ao', c', rfl, hb, hd, h1, h2, hg⟩
  refine ⟨b, rfl, ⟨hg.size, { cap := cap, cr := 0, ca := 0, dn := false, dw := false, fail := [], keep := [], files := [], mp := none, fr := (Value.slice ao 0 c).ownBlock, kr := (Value.slice ao' 0 c').ownBlock }, { cap := cap, fl := .slice ao 0 c, cr := 0, dn := false, kp := .slice ao' 0 c', fs := .map none, sz := 0, ca := 0, dw := false }, ?_, rfl, rfl, ⟨rfl, rfl, rfl, by omega, by omega, rfl, rfl, rfl⟩, rfl, ?_⟩, hg⟩
  · exact {
      disk := hd
      cap := rfl
      cr := rfl
      ca := rfl
      dn := rfl
      dw := rfl
      fs := rfl
      lists := ⟨ao, c, ao', c', rfl, rfl, by simpa [iv] using owns_base h1 (by omega), owns_base h2 (by omega), rfl, rfl,
        (fun g hg hm => by have h3 := (h1.lt g hg).1; simp [foot] at hm; omega), (fun g hg hm => by have h3 := (h2.lt g hg).1; simp [foot] at hm; omega)⟩
      mapN := fun _ => rfl
      mapS := fun m hm => by cases hm
      files := fun f hf => by cases hf
      apart1 := fun m hm => by cases hm
      apart2 := fun f hf => by cases hf
      apart3 := List.Pairwise.nil
      low := fun k hk => by simp [foot] at hk; omega
      names := List.nodup_nil
      sorted := List.Pairwise.nil }
  · intro k hk
    simp only [blocks, foot, Option.toList_none, List.flatMap_nil, List.nil_append, List.cons_append, List.mem_cons, List.mem_append, Option.mem_toList] at hk
    rcases hk with rfl | hk | hk
    · exact hb
    · have := (h1.lt k hk).1; omega
    · have := (h2.lt k hk).1; omega

theorem create_oneP (base b : Nat) (cap ca : Int) (keep : List Int) (P : Nat → Prop) (name : ByteArray) (w : World) (h : ZeroP w base b cap ca keep P) (hca : ca < 999) (hne : name.toList.isEmpty = false) (hl : name.size ≤ maxLen) :
    Calls Try.prog 20 #[theDisk b, .string name] w fun e w' => e = .returned (.int .i64 0) ∧ OneP w' base b name.data.toList [] 0 cap (ca + 1) keep (fun k => P k ∨ w.heap.size ≤ k ∨ ∃ es cl, w'.heap[k]? = some (.map es cl)) ∧ Below base w w' ∧ ∃ G, Turn G w w' ∧ ∀ k ∈ G, P k := by
  obtain ⟨h0, S, s, hR, hs, hf, hc, hm0, hP⟩ := h
  refine (create_ok base b S s name w hR hc.runs hne (by simp [hf]) hl (by simp [hf, maxLen]) h0).mono ?_
  rintro e w' ⟨k, rfl, rfl, f, m, s', h1, h2, h3, h4, h5, h6, h7, h8⟩
  have hb := below_turn hR h0 (h8.mono (by intro x hx; simp only [foot, List.mem_cons, List.mem_append] at hx ⊢; exact hx.imp id .inl))
  refine ⟨rfl, ⟨Nat.le_trans h0 h8.size, _, s', f, h6, by rw [h7, hs]; rfl, by simp [hf], h1, h2, h3, ⟨hc.cap, hc.cr, by show S.ca + 1 = _; rw [hc.ca], by have := hc.ca0; omega, by omega, hc.dw, hc.fail, hc.keep⟩, ?_⟩, hb, _, h8, ?_⟩
  · intro k hk
    simp only [blocks, foot, hf, List.nil_append, Option.toList_some, List.flatMap_cons, List.flatMap_nil, List.append_nil, FM.foot, h5, Option.toList_none, List.mem_append, List.mem_cons, List.not_mem_nil, or_false] at hk
    rcases hk with (rfl | rfl | rfl) | hk
    · exact .inl (hP _ (by simp [blocks, foot]))
    · obtain ⟨D, ⟨es, cl, hb, _⟩, _⟩ := h6.mapS k rfl
      exact .inr (.inr ⟨es, cl, hb⟩)
    · exact .inr (.inl h4)
    · exact .inl (hP k (by simp only [blocks, List.mem_append]; exact .inr hk))
  · intro k hk
    refine hP k ?_
    simp only [hm0, Option.toList_none, List.mem_cons, List.not_mem_nil, or_false] at hk
    simp [blocks, foot, hk]

theorem append_oneP (base b : Nat) (nm l : List UInt8) (sy : Nat) (cap ca : Int) (keep : List Int) (P : Nat → Prop) (name : ByteArray) (vb : Value) (l2 : List UInt8) (w : World) (h : OneP w base b nm l sy cap ca keep P) (hca : ca < 999) (hnm : name.data.toList = nm) (hl : name.size ≤ maxLen) (hv : Reads w vb (bv l2)) (hvb : bv l2 ≠ [] → ∀ a n c, vb = .slice (some a) n c → a.block ≠ b)
    (hs1 : l.length + l2.length < 1000000000) (hcap : (l.length : Int) + l2.length ≤ cap) :
    Calls Try.prog 21 #[theDisk b, .string name, vb] w fun e w' => e = .returned (.int .i64 0) ∧ OneP w' base b nm (l ++ l2) sy cap (ca + 1) keep (fun k => P k ∨ w.heap.size ≤ k) ∧ Below base w w' ∧ ∃ G, Turn G w w' ∧ ∀ k ∈ G, P k := by
  obtain ⟨h0, S, s, f, hR, hs, hf, hn, hb, hsy, hc, hP⟩ := h
  have ht : total S.files = l.length := by simp [total, hf, hb]
  have hfind : S.files.find? (named name.data.toList) = some f := by simp [hf, named, hn, hnm]
  refine (append_ok_at base b S s name vb l2 f w hR hc.runs hfind hl hv hvb (by rw [hs, ht]) (by omega) (by rw [ht, hc.cap]; exact hcap) h0 (by rw [ht, hb]; exact Nat.le_refl _)).mono ?_
  rintro e w' ⟨k, rfl, rfl, row, s', h1, h2, h3, h4⟩
  have hfin : mapF name.data.toList (addTo l2 row) S.files = [addTo l2 row f] := by simp [mapF, hf, named, hn, hnm]
  refine ⟨rfl, ⟨Nat.le_trans h0 h3.size, _, s', addTo l2 row f, h1, by rw [h2, hs]; simp, hfin, hn, by simp [addTo, hb], hsy, ⟨hc.cap, hc.cr, by show S.ca + 1 = _; rw [hc.ca], by have := hc.ca0; omega, by omega, hc.dw, hc.fail, hc.keep⟩, ?_⟩, below_turn hR h0 h3, _, h3, fun k hk => hP k (List.mem_append_left _ hk)⟩
  intro k hk
  rw [hfin] at hk
  have key : k ∈ blocks b S ∨ w.heap.size ≤ k := by
    simp only [blocks, foot, List.flatMap_cons, List.flatMap_nil, List.append_nil, FM.foot, addTo, List.mem_append, List.mem_cons, Option.mem_toList] at hk
    simp only [blocks, foot, hf, List.flatMap_cons, List.flatMap_nil, List.append_nil, FM.foot, List.mem_append, List.mem_cons, Option.mem_toList]
    rcases hk with (hk | hk | hk | hk) | hk
    · exact .inl (.inl (.inl hk))
    · exact .inl (.inl (.inr (.inl hk)))
    · exact .inl (.inl (.inr (.inr (.inl hk))))
    · rcases h4 with e | ⟨g, e, hg⟩
      · exact .inl (.inl (.inr (.inr (.inr (e ▸ hk)))))
      · rw [e] at hk; cases hk; exact .inr hg
    · exact .inl (.inr hk)
  exact key.imp (hP k) id

/-- Of a disk of no file none is told. -/
theorem files_zero (base b : Nat) (cap ca : Int) (keep : List Int) (w : World) (h : Zero w base b cap ca keep) :
    Calls Try.prog 25 #[theDisk b] w fun e w' => ∃ ao c, e = .returned (.slice ao 0 c) ∧ w.grownBy w' none := by
  obtain ⟨h0, S, s, hR, hs, hf, hc⟩ := h
  refine (files_any base b S s w hR (by simp [total, hf]) (by simp [hf]) (by simp [hf])).mono ?_
  rintro e w' ⟨ao, c, xs, rfl, hown, _, hg⟩
  exact ⟨ao, c, by simp [hf], hg⟩

end Go.Proofs.Ytloccomlnnndoaa
