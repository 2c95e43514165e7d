/- Rename, that is carried out. Numbers and types by name. -/
import Derived.Test.YthacjeeafnblmaaDoorCut
/- A file that is removed: the map's entry is deleted. Numbers and types by name. -/
namespace Go.Proofs.YthacjeeafnblmaaDoor
open Go.RowKit Go.Maps Go.Sort Go.WideMaps

def without (k : List UInt8) (files : List FM) : List FM := files.filter fun g => !named k g

theorem ownsMap_tight {w : World} {k : TypeId} {R : Value → Option (DataW Unit × List MemPlace)} {b n : Nat} {D : DataW Unit} (h : w.ownsMap Tryd.prog k R b n D) : w.ownsMap Tryd.prog k R b (Maps.size D) D := by
  obtain ⟨es, clock, hb, F, hs, rfl⟩ := h
  refine ⟨es, clock, hb, F, ?_, rfl⟩
  have e1 : Maps.size (DataW.map ((es.toList.map (WideElems.rg Tryd.prog k R)).foldr DataW.insert [])) = es.size := by simp [Maps.size, length_sorted]
  omega

theorem without_length (k : List UInt8) (files : List FM) (hn : (files.map (·.name)).Nodup) : (without k files).length + (if files.any (named k) = true then 1 else 0) = files.length := by
  induction files with
  | nil => rfl
  | cons a l ih =>
    simp only [List.map_cons, List.nodup_cons] at hn
    have h1 := ih hn.2
    by_cases ha : named k a = true
    · have hno : l.any (named k) = false := by
        cases e : l.any (named k) with
        | false => rfl
        | true =>
          obtain ⟨g, hg, hgn⟩ := List.any_eq_true.1 e
          refine absurd (List.mem_map.2 ⟨g, hg, ?_⟩) hn.1
          simp [named] at ha hgn
          rw [ha, hgn]
      rw [hno] at h1
      simp only [without, List.filter_cons, ha, Bool.not_true, Bool.false_eq_true, if_false, List.any_cons, Bool.true_or, if_true, List.length_cons] at h1 ⊢
      omega
    · have ha' : named k a = false := by simpa using ha
      simp only [without, List.filter_cons, ha', Bool.not_false, if_true, List.any_cons, Bool.false_or, List.length_cons] at h1 ⊢
      omega

theorem find_without (k x : List UInt8) (files : List FM) : (without k files).find? (named x) = if x = k then none else files.find? (named x) := by
  induction files with
  | nil => simp [without]
  | cons a l ih =>
    by_cases ha : named k a = true
    · have e : without k (a :: l) = without k l := by simp [without, ha]
      rw [e, ih]
      by_cases hx : x = k
      · simp [hx]
      · have : named x a = false := by
          simp [named] at ha ⊢
          rw [ha]; exact fun e => hx e.symm
        simp [hx, this]
    · have ha' : named k a = false := by simpa using ha
      have e : without k (a :: l) = a :: without k l := by simp [without, ha']
      rw [e, List.find?_cons, List.find?_cons, ih]
      by_cases hx : x = k
      · simp [hx, ha']
      · simp [hx]

theorem any_without (k x : List UInt8) (files : List FM) : (without k files).any (named x) = if x = k then false else files.any (named x) := by
  have h1 : ∀ l : List FM, l.any (named x) = (l.find? (named x)).isSome := by
    intro l
    rw [Bool.eq_iff_iff, List.find?_isSome, List.any_eq_true]
  rw [h1, h1, find_without]
  split <;> rfl

theorem MapAt.del {w' : World} {m : Nat} {files : List FM} {D : DataW Unit} {n : Nat} (k : List UInt8) (hnd : (files.map (·.name)).Nodup) (h1 : Maps.size D = files.length) (h2 : ∀ x, D.atKey (.string x) .nil = Go.Proofs.YthacjeeafnblmaaDoor.look files x) (h3 : ∀ x, Maps.has D (.string x) = files.any (named x))
    (hT : Tidy D) (hown : w'.ownsMap Tryd.prog 9 Rp m n (D.del (.string k))) : MapAt w' m (without k files) := by
  have hl : Maps.size (D.del (.string k)) = (without k files).length := by
    have e1 := size_del (k := .string k) hT
    have e2 := without_length k files hnd
    rw [h3] at e1
    omega
  refine ⟨_, by rw [← hl]; exact ownsMap_tight hown, hl, fun x => ?_, fun x => ?_⟩
  · by_cases hx : x = k
    · subst hx
      rw [atKey_del_same]
      unfold Go.Proofs.YthacjeeafnblmaaDoor.look
      rw [find_without]
      simp
    · rw [atKey_del_other (by simpa using hx), h2]
      unfold Go.Proofs.YthacjeeafnblmaaDoor.look
      rw [find_without, if_neg hx]
  · rw [any_without]
    by_cases hx : x = k
    · subst hx
      rw [has_del_same]
      simp
    · rw [has_del_other (by simpa using hx), h3, if_neg hx]

theorem mem_without {k : List UInt8} {files : List FM} {g : FM} (h : g ∈ without k files) : g ∈ files ∧ g.name ≠ k := by
  have h1 := List.mem_filter.1 h
  refine ⟨h1.1, ?_⟩
  have := h1.2
  simp [named] at this
  exact this

/-- The disk behind a deletion in its map. -/
theorem Rep.without {w w' : World} {base b : Nat} {S : DM} {s : DS} (h : Rep w base b S s) (k : List UInt8) (m : Nat) (hm : S.mp = some m) (t : Turn [m] w w') (hM : MapAt w' m (without k S.files)) :
    Rep w' base b { S with files := without k S.files } s := by
  have hfoot : ∀ x, x ∈ foot b { S with files := Go.Proofs.YthacjeeafnblmaaDoor.without k S.files } → x ∈ foot b S := by
    intro x hx
    simp only [foot, List.mem_cons, List.mem_append, List.mem_flatMap] at hx ⊢
    rcases hx with hx | hx | ⟨f, hf, hx⟩
    · exact .inl hx
    · exact .inr (.inl hx)
    · exact .inr (.inr ⟨f, (mem_without hf).1, hx⟩)
  have hmf : m ∈ foot b S := by simp [foot, hm]
  obtain ⟨ao, c, ao', c', g1, g2, g3, g4, g5, g6, g7, g8⟩ := h.lists
  exact {
    disk := h.disk.turn t (by simpa using h.apart1 m hm)
    cap := h.cap
    cr := h.cr
    ca := h.ca
    dn := h.dn
    dw := h.dw
    fs := h.fs
    lists := ⟨ao, c, ao', c', g1, g2, owns_turn g3 t (fun g hg => by
        have := g7 g (g5.symm.trans hg); simp; rintro rfl; exact this hmf), owns_turn g4 t (fun g hg => by
        have := g8 g (g6.symm.trans hg); simp; rintro rfl; exact this hmf), g5, g6, (fun g hg hx => g7 g hg (hfoot g hx)), (fun g hg hx => g8 g hg (hfoot g hx))⟩
    mapN := fun e => by rw [show ({ S with files := Go.Proofs.YthacjeeafnblmaaDoor.without k S.files } : DM).mp = S.mp from rfl, hm] at e; cases e
    mapS := fun m' hm' => by
      obtain rfl : m = m' := by
        have : S.mp = some m' := hm'
        rw [hm] at this; simpa using this
      exact hM
    files := fun f hf => (h.files f (mem_without hf).1).keep t (fun x hx => by
      simp only [List.mem_singleton]; rintro rfl; exact (h.apart2 f (mem_without hf).1).2.1 _ hm hx)
    apart1 := h.apart1
    apart2 := fun f hf => h.apart2 f (mem_without hf).1
    apart3 := h.apart3.sublist List.filter_sublist
    low := fun x hx => h.low x (hfoot x hx)
    names := h.names.sublist (List.filter_sublist.map _)
    sorted := h.sorted }

theorem without_mapF (k : List UInt8) (u : FM → FM) (hu : ∀ g, (u g).name = g.name) (files : List FM) : Go.Proofs.YthacjeeafnblmaaDoor.without k (mapF k u files) = Go.Proofs.YthacjeeafnblmaaDoor.without k files := by
  induction files with
  | nil => rfl
  | cons a l ih =>
    unfold Go.Proofs.YthacjeeafnblmaaDoor.without mapF at *
    rw [List.map_cons]
    by_cases ha : named k a = true
    · have h2 : named k (u a) = true := by simp [named, hu] at ha ⊢; exact ha
      simp only [ha, if_true, List.filter_cons, h2, Bool.not_true, Bool.false_eq_true, if_false]
      exact ih
    · have ha' : named k a = false := by simpa using ha
      simp only [ha', Bool.false_eq_true, if_false, List.filter_cons, Bool.not_false, if_true]
      rw [ih]

theorem total_without (k : List UInt8) (files : List FM) (f : FM) (hf : files.find? (named k) = some f) (hn : (files.map (·.name)).Nodup) : total (Go.Proofs.YthacjeeafnblmaaDoor.without k files) + f.bytes.length = total files := by
  induction files with
  | nil => cases hf
  | cons a l ih =>
    simp only [List.map_cons, List.nodup_cons] at hn
    rw [List.find?_cons] at hf
    by_cases ha : named k a = true
    · simp only [ha] at hf
      obtain rfl := Option.some.inj hf
      have e : Go.Proofs.YthacjeeafnblmaaDoor.without k (a :: l) = l := by
        have : Go.Proofs.YthacjeeafnblmaaDoor.without k l = l := by
          refine List.filter_eq_self.2 fun g hg => ?_
          cases e : named k g with
          | false => rfl
          | true =>
            refine absurd (List.mem_map.2 ⟨g, hg, ?_⟩) hn.1
            simp [named] at ha e
            rw [ha, e]
        simpa [Go.Proofs.YthacjeeafnblmaaDoor.without, ha] using this
      rw [e]
      simp [total]; omega
    · have ha' : named k a = false := by simpa using ha
      simp only [ha'] at hf
      have e : Go.Proofs.YthacjeeafnblmaaDoor.without k (a :: l) = a :: Go.Proofs.YthacjeeafnblmaaDoor.without k l := by simp [Go.Proofs.YthacjeeafnblmaaDoor.without, ha']
      rw [e]
      have := ih hf hn.2
      simp [total] at this ⊢; omega

end Go.Proofs.YthacjeeafnblmaaDoor

/- 'drop'. Numbers and types by name. -/
namespace Go.Proofs.YthacjeeafnblmaaDoor
open Go.RowKit Go.Maps Go.Sort Go.WideMaps

end Go.Proofs.YthacjeeafnblmaaDoor

namespace Go.Proofs.YthacjeeafnblmaaDoor
open Go.RowKit Go.Maps Go.Sort Go.WideMaps

theorem without_none {k : List UInt8} {files : List FM} (h : files.find? (named k) = none) : without k files = files := by
  refine List.filter_eq_self.2 fun g hg => ?_
  have := List.find?_eq_none.1 h g hg
  simpa using this

def renamed (src dst : List UInt8) (f : FM) (files : List FM) : List FM := without src (without dst files) ++ [{ f with name := dst }]

def MovedAt (w : World) (base b : Nat) (S : DM) (ca : Int) (src dst : List UInt8) (f : FM) (k : Int) (w' : World) : Prop :=
  k = 0 ∧ ∃ m s', (S.mp = some m ∨ w.heap.size ≤ m) ∧ Rep w' base b { S with ca := ca, files := renamed src dst f S.files, mp := some m } s' ∧ s'.sz = total (without dst S.files) ∧ Turn (foot b S) w w'
def Moved (w : World) (base b : Nat) (S : DM) (ca : Int) (src dst : List UInt8) (f : FM) (k : Int) (w' : World) : Prop :=
  k = 0 ∧ ∃ m s', Rep w' base b { S with ca := ca, files := renamed src dst f S.files, mp := some m } s' ∧ s'.sz = total (without dst S.files) ∧ Turn (foot b S) w w'

theorem find_keep {k x : List UInt8} {files : List FM} {f : FM} (h : files.find? (named k) = some f) (hne : k ≠ x) : (without x files).find? (named k) = some f := by
  rw [find_without, if_neg hne]; exact h

/-- A file's blocks stand apart from all that is left when its name is taken out. -/
theorem apart_without {w : World} {base b : Nat} {S : DM} {s : DS} (h : Rep w base b S s) {f : FM} {k : List UInt8} (hf : S.files.find? (named k) = some f) : ∀ x ∈ f.foot, x ∉ foot b { S with files := without k S.files } := by
  obtain ⟨hmem, hnm⟩ := find_mem hf
  obtain ⟨hbf, hmf, hnd⟩ := h.apart2 f hmem
  intro x hx hm
  simp only [foot, List.mem_cons, List.mem_append, List.mem_flatMap, Option.mem_toList] at hm
  rcases hm with rfl | hm | ⟨g, hg, hgx⟩
  · exact hbf hx
  · exact hmf x hm hx
  · obtain ⟨hgm, hgn⟩ := mem_without hg
    have hne : g ≠ f := fun e => hgn (e ▸ hnm)
    have hp : ∀ (l : List FM), l.Pairwise (fun f g => ∀ k ∈ f.foot, k ∉ g.foot) → f ∈ l → g ∈ l → False := by
      intro l hl
      induction l with
      | nil => intro h; cases h
      | cons a t ih =>
        intro h1 h2
        obtain ⟨ha, ht⟩ := List.pairwise_cons.1 hl
        rcases List.mem_cons.1 h1 with rfl | h1'
        · rcases List.mem_cons.1 h2 with rfl | h2'
          · exact hne rfl
          · exact ha g h2' x hx hgx
        · rcases List.mem_cons.1 h2 with rfl | h2'
          · exact ha f h1' x hgx hx
          · exact ih ht h1' h2'
    exact hp _ h.apart3 hmem hgm

/-- 'delete' at a step of a region that draws its order. -/
theorem step_delete {ops : Array Oper} {o : Oper} {a : Act} {w : World} {K : Act → World → Prop} {Q : Exit → Act → World → Prop} {E : Prop} (hgd : o.guard = none) (m x : Operand)
    (hop : o.op = Op.call { callee := Callee.builtin Builtin.delete, args := #[m, x], argTypes := #[52, 9] })
    (b n : Nat) (D : DataW Unit) (hm : a.eval m = .map (some b)) (hown : w.ownsMap Tryd.prog 9 Rp b n D) (key : Value) (kl : Lit) (hx : a.eval x = key) (hkey : keyOf Tryd.prog 9 key = some kl)
    (hK : ∀ w', w'.ownsMap Tryd.prog 9 Rp b n (D.del kl) → w.mapTurned w' b → K (a.put o.dst (.tuple #[])) w') :
    if Region.wanted o (yielded ops a.tmps) = true then Oper.wp Tryd.prog o a w K Q else E := by
  have hw : Region.wanted o (yielded ops a.tmps) = true := by simp [Region.wanted, hgd]
  rw [if_pos hw]
  obtain ⟨w', hrun, r1, r2⟩ := hown.drop law Tryd.underlying52 hkey o.type
  unfold Oper.wp execOp
  simp only [hop, resolve, invoke, builtin, Sem.run_bind, Sem.run_pure, Result.andThen_ok, List.map_toArray, List.map_cons, List.map_nil, hm, hx, hrun]
  exact hK w' r1 r2

theorem cell_turn {w w' : World} {F : List Nat} (t : Turn F w w') {p : Nat} (hp : p ∉ F) {v : Value} (h : w.cell? ⟨p, 0, none⟩ = some v) : w'.cell? ⟨p, 0, none⟩ = some v :=
  (World.cell?_of_block (t.block p (World.block_lt_of_cell? w _ h) hp)).trans h

theorem rename_mid {w2 w3 : World} {base b : Nat} {S : DM} {s : DS} {src : List UInt8} {f : FM} {m : Nat} (hR : Rep w2 base b S s) (hm : S.mp = some m) (hf : S.files.find? (named src) = some f) (t3 : Turn [m] w2 w3) (hM3 : MapAt w3 m (without src S.files)) (dst : ByteArray) (hl : dst.size ≤ maxLen)
    (hno : S.files.any (named dst.data.toList) = false) (hlen : S.files.length < maxLen) (hbase : base ≤ w2.heap.size) :
    Calls Tryd.prog 39 #[theDisk b, .string dst, .pointer (some ⟨f.blk, 0, none⟩)] w3 fun e w' => e = .returned (.tuple #[]) ∧ ∃ m' s', (S.mp = some m' ∨ w3.heap.size ≤ m') ∧ Rep w' base b { S with files := without src S.files ++ [{ f with name := dst.data.toList }], mp := some m' } s' ∧ s'.sz = s.sz ∧ Turn (b :: S.mp.toList) w3 w' := by
  obtain ⟨hmem, hnm⟩ := find_mem hf
  obtain ⟨hbf, hmf, hnd⟩ := hR.apart2 f hmem
  have hR3 := hR.without src m hm t3 hM3
  have hsub : ∀ x ∈ f.foot, x ∈ foot b S := fun x hx => by simp only [foot, List.mem_cons, List.mem_append, List.mem_flatMap]; exact .inr (.inr ⟨f, hmem, hx⟩)
  have hF3 : FileAt w3 base f := (hR.files f hmem).keep t3 (fun x hx => by simp only [List.mem_singleton]; rintro rfl; exact hmf _ hm hx)
  obtain ⟨ao, c, ao', c', g1, g2, g3, g4, g5, g6, g7, g8⟩ := hR.lists
  refine put_new_at base b { S with files := without src S.files } s dst { f with name := dst.data.toList } w3 hR3 rfl hl ?_ ?_ hF3 hnd (fun k hk => apart_without hR hf k hk) (fun k hk => hR.low k (hsub k hk)) (fun g hg hk => g7 g hg (hsub g hk)) (fun g hg hk => g8 g hg (hsub g hk)) (Nat.le_trans hbase t3.size)
  · exact Nat.lt_of_le_of_lt (List.length_filter_le _ _) hlen
  · show (without src S.files).any (named dst.data.toList) = false
    rw [any_without]
    split
    · rfl
    · exact hno

end Go.Proofs.YthacjeeafnblmaaDoor
