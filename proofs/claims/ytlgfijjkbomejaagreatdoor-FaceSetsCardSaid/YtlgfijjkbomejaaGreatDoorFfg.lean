/- The checker of interfaces over a module: its labels. Numbers and types by name. -/
import Derived.Test.YtlgfijjkbomejaaGreatDoorFfb
import Derived.Test.YtlgfijjkbomejaaGreatDoorPbm
import Derived.Test.YtlgfijjkbomejaaGreatDoorSmb
/- The checker of interfaces over a module: its imports. Numbers and types by name. -/
namespace Go.Proofs.YtlgfijjkbomejaaGreatDoor
open Go.RowKit Go.Lib Go.Sort Go.Maps Go.WideMaps
set_option maxRecDepth 100000

/-- Names, each once: those told twice. -/
def twD : List (B8 × Nat) → List B8 → List Dg
  | [], _ => []
  | x :: r, N => onceD N x.1 x.2 ++ twD r (N ++ [x.1])
theorem twD_append : ∀ (a b : List (B8 × Nat)) (N : List B8), twD (a ++ b) N = twD a N ++ twD b (N ++ a.map (·.1))
  | [], b, N => by simp [twD]
  | x :: a, b, N => by
    simp only [List.cons_append, twD, twD_append a b, List.map_cons, List.append_assoc, List.nil_append]
theorem twD_next {l : List (B8 × Nat)} {k : Nat} {x : B8 × Nat} (h : l[k]? = some x) (N : List B8) : twD (l.take (k + 1)) N = twD (l.take k) N ++ onceD (N ++ (l.take k).map (·.1)) x.1 x.2 := by
  rw [List.take_add_one, h, Option.toList_some, twD_append]
  simp [twD]
theorem onceD_len (N : List B8) (n : B8) (p : Nat) : (onceD N n p).length ≤ 1 := by unfold onceD; split <;> simp
theorem twD_len : ∀ (l : List (B8 × Nat)) (N : List B8), (twD l N).length ≤ l.length
  | [], _ => Nat.le_refl _
  | x :: r, N => by
    have h1 := onceD_len N x.1 x.2
    have h2 := twD_len r (N ++ [x.1])
    simp only [twD, List.length_append, List.length_cons]
    omega
def impN (m : Mdl) : List (B8 × Nat) := m.imports.map fun i => (i.name, i.pos)
def impD (m : Mdl) : List Dg := twD (impN m) [m.name]

theorem wpList_insert_own {H : Type} {P : Program} (w : World) {ops : Array Oper} {rest : List Oper} {o : Oper} {a : Act} {Q : Exit → Act → World → Prop}
    (hg : o.guard = none) (m x v : Operand) (t : TypeId) (hop : o.op = Op.insert t m x v)
    (k e : TypeId) (K : Keyed P k) (ht : P.underlying t = some (.map k e)) (R : Value → Option (DataW H × List MemPlace)) (b n : Nat) (D : DataW H)
    (hm : a.eval m = .map (some b)) (hown : w.ownsMap P k R b n D) (hn : n < maxLen) (key val : Value) (kl : Lit) (hx : a.eval x = key) (hv : a.eval v = val) (hkey : keyOf P k key = some kl)
    (d : DataW H) (ps : List MemPlace) (hval : R val = some (d, ps))
    (hK : ∀ w', w'.ownsMap P k R b (n + 1) (D.put kl d) → w.grownBy w' (some b) → wpList P ops Q rest (a.put o.dst undef) w') :
    wpList P ops Q (o :: rest) a w := by
  refine wpList_plain hg fun K' hK' => ?_
  obtain ⟨w', hrun, r1, r2⟩ := hown.update K ht hn hkey hval
  unfold Oper.wp
  simp [execOp, hop, hm, hx, hv, hrun, Result.andThen]
  exact hK' _ _ (hK w' r1 r2)

/-- What is told and the names passed, on the way. -/
structure Once (w : World) (lo b : Nat) (md : B8) (al : Value) (nl : Nat) (L : List B8) (vd : Value) (D : List Dg) (s : Nat) (N : List B8) (ad : Option Addr) (n c : Nat) (w' : World) : Prop where
  ck : CkAt w' lo b md al nl L (.slice ad n c) n D
  set : SetM w' s N
  chg : Chg (s :: b :: rowF vd) w w'
  fr : FromRow w vd (.slice ad n c)
theorem Once.next {w : World} {lo b : Nat} {md : B8} {al : Value} {nl : Nat} {L : List B8} {vd : Value} {D : List Dg} {s : Nat} {N : List B8} {ad : Option Addr} {n c : Nat} {w' : World} (h : Once w lo b md al nl L vd D s N ad n c w') {w1 : World} (hg : Grow w' w1) {D' : List Dg} {N' : List B8} {e : Ending} {w2 : World}
    (k : OnceTold w1 lo b md al nl L (.slice ad n c) D' s N' e w2) : e = .returned (.tuple #[]) ∧ ∃ ad2 n2 c2, Once w lo b md al nl L vd D' s N' ad2 n2 c2 w2 := by
  obtain ⟨rfl, ad2, n2, c2, k1, k2, k3, k4⟩ := k
  have f1 : FromRow w' (.slice ad n c) (.slice ad2 n2 c2) := by
    rcases k4 with h1 | h1
    · exact .inl h1
    · exact .inr fun j hj => Nat.le_trans hg.size (h1 j hj)
  have c1 : Chg (s :: b :: rowF vd) w w1 := h.chg.trans' (Chg.of_below (F := []) hg) (fun x hx => by cases hx)
  refine ⟨rfl, ad2, n2, c2, k1, k2, c1.trans' k3 (fun x hx => ?_), h.fr.trans f1 h.chg.size⟩
  rcases List.mem_cons.1 hx with rfl | hx
  · exact .inl (by simp)
  · rcases List.mem_cons.1 hx with rfl | hx
    · exact .inl (by simp)
    · exact h.fr.mem hx (fun y hy => List.mem_cons_of_mem _ (List.mem_cons_of_mem _ hy))

theorem Once.low {w1 : World} {lo b : Nat} {md : B8} {al : Value} {nl : Nat} {L : List B8} {vd : Value} {D : List Dg} {s : Nat} {N : List B8} {ad : Option Addr} {n c : Nat} {wr : World} (h : Once w1 lo b md al nl L vd D s N ad n c wr) {w0 : World} (hg : Grow w0 w1) (hb : w0.heap.size ≤ b) (hs : w0.heap.size ≤ s) (hv : ∀ k, vd.ownBlock = some k → w0.heap.size ≤ k) : Grow w0 wr :=
  Below.trans hg (h.chg.below hg.size (fun x hx => by
    rcases List.mem_cons.1 hx with rfl | hx
    · exact hs
    · rcases List.mem_cons.1 hx with rfl | hx
      · exact hb
      · exact hv x (rowF_mem.1 hx)))
/-- A block that was there stays. -/
theorem Once.keep {w1 : World} {lo b : Nat} {md : B8} {al : Value} {nl : Nat} {L : List B8} {vd : Value} {D : List Dg} {s : Nat} {N : List B8} {ad : Option Addr} {n c : Nat} {wr : World} (h : Once w1 lo b md al nl L vd D s N ad n c wr) {k : Nat} {o : Obj} (hk : w1.heap[k]? = some o) (h1 : k ≠ s) (h2 : k ≠ b) (h3 : ∀ j, vd.ownBlock = some j → j ≠ k) : wr.heap[k]? = some o :=
  (h.chg.block k (Array.getElem?_eq_some_iff.1 hk).1 (fun hm => by
    rcases List.mem_cons.1 hm with e | hm
    · exact h1 e
    · rcases List.mem_cons.1 hm with e | hm
      · exact h2 e
      · exact h3 k (rowF_mem.1 hm) rfl)).trans hk
/-- The end of such a loop over a map of its own. -/
theorem Once.told {w w1 : World} {lo b : Nat} {md : B8} {al : Value} {nl : Nat} {L : List B8} {vd : Value} {D : List Dg} {s : Nat} {N : List B8} {ad : Option Addr} {n c : Nat} {wr : World} (h : Once w1 lo b md al nl L vd D s N ad n c wr) (hg : Grow w w1) (hs : w.heap.size ≤ s) : CkTold w lo b md al nl L vd D (.returned (.tuple #[])) wr := by
  refine ⟨rfl, ad, n, c, h.ck, (Chg.of_below (F := b :: rowF vd) hg).trans' h.chg (fun x hx => ?_), ?_⟩
  · rcases List.mem_cons.1 hx with rfl | hx
    · exact .inr hs
    · exact .inl hx
  · rcases h.fr with h1 | h1
    · exact .inl h1
    · exact .inr fun k hk => Nat.le_trans hg.size (h1 k hk)
theorem put_made {w3 : World} {s : Nat} {k : B8} (h : w3.ownsMap Tryz.prog 9 unitElem s (0 + 1) ((DataW.map (H := Unit) []).put (.string k) (.agg []))) : SetM w3 s [k] :=
  SetM.put (N := []) h (Nat.le_refl _) ⟨[], rfl⟩ (fun k => by simp [Maps.has])

set_option maxHeartbeats 8000000 in
theorem imports_walk (lo b : Nat) (md : B8) (al : Value) (nl : Nat) (L : List B8) (vd : Value) (nd : Nat) (D : List Dg) (m : Mdl) (vI vV vP : Value) (w0 w : World) (h : CkAt w lo b md al nl L vd nd D) (hg0 : Grow w0 w) (hb : w0.heap.size ≤ b) (hI : TRows w0 2 (fun i c => c = impV i) vI m.imports) (hlen : m.imports.length ≤ 100000) (hname : m.name.length ≤ maxLen) (hnames : ∀ i ∈ m.imports, i.name.length ≤ maxLen) (hn : Hid (nd + m.imports.length + 1 ≤ 100000000000)) :
    Calls Tryz.prog 72 #[.pointer (some ⟨b, 0, none⟩), .agg (mdlV m vI vV vP).toArray] w (CkTold w lo b md al nl L vd (D ++ impD m)) := by
  obtain ⟨ad, cd, rfl⟩ := h.own.shape
  obtain ⟨aI, cI, rfl⟩ := hI.shape
  obtain ⟨nI, hnI⟩ : ∃ n, m.imports.length = n := ⟨_, rfl⟩
  rw [hnI] at hI hlen hn ⊢
  have hkey : keyOf Tryz.prog 9 (.string (tx m.name)) = some (.string m.name) := by
    have := keyOf_string_mk Tryz.underlying9 (s := tx m.name) (by rw [tx_size]; exact hname)
    simpa [tx] using this
  obtain ⟨w1, hw1⟩ : ∃ w1, w.alloc (.cells #[.string (tx m.name), .int .i64 (m.pos : Int), .slice aI nI cI, vV, vP] 26) = w1 := ⟨_, rfl⟩
  have hb1 : w1.heap[w.heap.size]? = some (.cells #[.string (tx m.name), .int .i64 (m.pos : Int), .slice aI nI cI, vV, vP] 26) := by rw [← hw1]; exact heap_alloc_new _ _
  have hg1 : Grow w w1 := by rw [← hw1]; exact (Below.refl _ w).alloc (Nat.le_refl _) _
  have HI := Lib.hid (And.intro hI (And.intro hnI hnames))
  have H := Lib.hid (And.intro h (And.intro hg0 (And.intro hg1 hb1)))
  have q0 : w1.cell? ⟨w.heap.size, 0, none⟩ = some (.string (tx m.name)) := cellsN hb1 0 _ rfl
  have q2 : (w1.alloc (.map #[] 0)).cell? ⟨w.heap.size, 0, none⟩ = some (.string (tx m.name)) := ((Below.refl _ w1).alloc (Nat.le_refl _) _ : Grow w1 _).cell (Array.getElem?_eq_some_iff.1 hb1).1 |>.trans q0
  have hmm : (Instr.makeMap 162 none).run Tryz.prog w1 = .ok (.map (some w1.heap.size)) (w1.alloc (.map #[] 0)) := rfl
  have HM := Lib.hid (World.ownsMap_made (H := Unit) w1 Tryz.prog 9 unitElem)
  clear h hI hnI hnames hb1 hg0 hg1
  simp only [mdlV]
  go_enter Tryz.func72, Tryz.ntmps72
  go_upto_region 2 with (refine wpList_insert_own _ rfl _ _ _ 162 rfl 9 160 lawS Tryz.underlying162 unitElem w1.heap.size 0 (.map []) rfl HM.out (by decide) _ _ (.string m.name) rfl rfl hkey _ [] unitElem_mk ?_; intro w3 hown3 hgrow3; have H3 := Lib.hid (And.intro hown3 hgrow3); clear hown3 hgrow3)
  obtain ⟨w2, hw2⟩ : ∃ w2, w1.alloc (.map #[] 0) = w2 := ⟨_, rfl⟩
  have hs2 : w2.heap.size = w1.heap.size + 1 := by rw [← hw2]; simp
  have hs1 : w.heap.size + 1 = w1.heap.size := by rw [← hw1]; simp
  have hO : Once w1 lo b md al nl L (.slice ad nd cd) D w1.heap.size [m.name] ad nd cd w3 := by
    have hg2 : Grow w1 w2 := by rw [← hw2]; exact (Below.refl _ w1).alloc (Nat.le_refl _) _
    have hc3 : Chg [w1.heap.size] w2 w3 := by rw [← hw2]; exact Chg.of_grown H3.out.2 (fun k hk => by cases hk; simp)
    have hsz := H.out.1.lt
    have h2 := (H.out.1.later H.out.2.2.1).later hg2
    refine ⟨h2.chg hc3 (fun hm => ?_) (fun k hk hm => ?_) (fun k hk hm => ?_), put_made H3.out.1, ?_, .inl rfl⟩
    · simp only [List.mem_singleton] at hm
      omega
    · simp only [List.mem_singleton] at hm
      have := (own_ge H.out.1.lab.2 hk).2
      omega
    · simp only [List.mem_singleton] at hm
      have := (H.out.1.ge hk).2
      omega
    · exact (Chg.of_below (F := _ :: b :: rowF (.slice ad nd cd)) hg2).trans' hc3 (fun x hx => .inl (by simp at hx; simp [hx]))
  have hb3 := hO.keep H.out.2.2.2 (by omega) (by have := H.out.1.lt; omega) (fun j hj => by have := (H.out.1.ge hj).2; omega)
  have q3 : w3.cell? ⟨w.heap.size, 2, none⟩ = some (.slice aI nI cI) := cellsN hb3 2 _ rfl
  have HO := Lib.hid hO
  have HK : Hid (nd + nI + 1 ≤ 100000000000 ∧ w0.heap.size ≤ b ∧ (∀ k, (Value.slice ad nd cd).ownBlock = some k → w0.heap.size ≤ k) ∧ w0.heap.size ≤ w1.heap.size ∧ nd = D.length) := Lib.hid ⟨hn.out, hb, fun k hk => by have := (H.out.1.ge hk).1; omega, by have := H.out.2.1.size; have := H.out.2.2.1.size; omega, H.out.1.own.1⟩
  obtain ⟨s, hsdef⟩ : ∃ s, w1.heap.size = s := ⟨_, rfl⟩
  rw [hsdef] at HO HK ⊢
  have HSD := Lib.hid hsdef
  clear hO hb3 hs1 hs2 hw1 hw2 q0 q2 hmm hb hn HM H3 hsdef
  go_wp2_with fail
  go_loopw [15] (fun i wr => ∃ k ad' n' c', k ≤ nI ∧ i = .int .i64 (k : Nat) ∧ Hid (Once w1 lo b md al nl L (.slice ad nd cd) (D ++ twD ((impN m).take k) [m.name]) s ([m.name] ++ ((impN m).take k).map (·.1)) ad' n' c' wr)) (fun i _ => nI - (RowKit.intOf i).toNat)
  case atStart => exact ⟨0, ad, nd, cd, Nat.zero_le _, rfl, Lib.hid (by simpa [twD] using HO.out)⟩
  case round =>
    obtain ⟨k, ad', n', c', hk, rfl, hs⟩ := hrel
    by_cases hlt : k < nI
    · have hk2 : (k : Int) < (nI : Int) := by omega
      have hk0 : (0 : Int) ≤ (k : Int) := by omega
      have hgr := hs.out.low (Grow.trans H.out.2.1 H.out.2.2.1) HK.out.2.1 HK.out.2.2.2.1 HK.out.2.2.1
      obtain ⟨a, i, cs, rfl, hi, rfl, _, hc⟩ := (HI.out.1.imp hgr (fun _ _ h => h)).at hlt
      have e0 : wr.cell? (a.add (k * 2)) = some (.string (tx i.name)) := hc.1 _ rfl
      have e1 : wr.cell? ⟨(a.add (k * 2)).block, (a.add (k * 2)).off + 1, none⟩ = some (.int .i64 (i.pos : Int)) := hc.2 1 _ (by decide) rfl
      have hx : (impN m)[k]? = some (i.name, i.pos) := by unfold impN; rw [List.getElem?_map, hi]; rfl
      obtain ⟨W, hW⟩ : ∃ W, wr.alloc (.cells #[.string (tx i.name), .int .i64 (i.pos : Int)] 122) = W := ⟨_, rfl⟩
      have hgW : Grow wr W := by rw [← hW]; exact (Below.refl _ wr).alloc (Nat.le_refl _) _
      have hnew : W.heap[wr.heap.size]? = some (.cells #[.string (tx i.name), .int .i64 (i.pos : Int)] 122) := by rw [← hW]; exact heap_alloc_new _ _
      have f0 : W.cell? ⟨wr.heap.size, 0, none⟩ = some (.string (tx i.name)) := cellsN hnew 0 _ rfl
      have f1 : W.cell? ⟨wr.heap.size, 1, none⟩ = some (.int .i64 (i.pos : Int)) := cellsN hnew 1 _ rfl
      have hln : n' ≤ nd + k := by
        have h1 := hs.out.ck.own.1
        have h2 := twD_len ((impN m).take k) [m.name]
        rw [List.length_append] at h1
        rw [List.length_take] at h2
        have := HK.out.2.2.2.2
        omega
      have P := once_walk lo b md al nl L _ n' _ s _ i.name i.pos W (hs.out.ck.later hgW) (hs.out.set.chg (F := []) (Chg.of_below hgW) (by simp)) (Lib.hid (by have := HK.out.1; omega)) (by simp only [List.length_append, List.length_map, List.length_take, List.length_cons, List.length_nil]; omega) (HI.out.2.2 i (List.mem_of_getElem? hi))
      have HS : Hid (∀ e w2, OnceTold W lo b md al nl L (.slice ad' n' c') (D ++ twD ((impN m).take k) [m.name] ++ onceD ([m.name] ++ ((impN m).take k).map (·.1)) i.name i.pos) s ([m.name] ++ ((impN m).take k).map (·.1) ++ [i.name]) e w2 → e = .returned (.tuple #[]) ∧ ∃ ad2 n2 c2, Once w1 lo b md al nl L (.slice ad nd cd) (D ++ twD ((impN m).take (k + 1)) [m.name]) s ([m.name] ++ ((impN m).take (k + 1)).map (·.1)) ad2 n2 c2 w2) := Lib.hid fun e w2 ht => by
        have := hs.out.next hgW ht
        rw [twD_next hx, ← List.append_assoc, List.take_add_one, hx, Option.toList_some, List.map_append, ← List.append_assoc]
        exact this
      clear hs hi hc hx hgW hnew hgr hln
      go_wp2_with (go_at_call 107; refine P.mono ?_; rintro e w2 ht; obtain ⟨rfl, ad2, n2, c2, h2⟩ := HS.out e w2 ht; have H2 := Lib.hid h2; clear ht h2)
      exact ⟨⟨k + 1, ad2, n2, c2, by omega, by go_num, H2⟩, by simp [RowKit.intOf]; omega⟩
    · have hk2 : ¬ (k : Int) < (nI : Int) := by omega
      obtain rfl : k = nI := by omega
      have HE : Hid (CkTold w lo b md al nl L (.slice ad nd cd) (D ++ impD m) (.returned (.tuple #[])) wr) := Lib.hid (by
        have := hs.out.told H.out.2.2.1 (by have := HSD.out; have := H.out.2.2.1.size; omega)
        rw [List.take_of_length_le (by unfold impN; rw [List.length_map, HI.out.2.1]; exact Nat.le_refl _)] at this
        exact this)
      clear hs
      go_wp2_with fail
      go_end0
      exact HE.out

end Go.Proofs.YtlgfijjkbomejaaGreatDoor

/- The checker of interfaces over a module: its names. Numbers and types by name. -/
namespace Go.Proofs.YtlgfijjkbomejaaGreatDoor
open Go.RowKit Go.Lib Go.Sort Go.Maps Go.WideMaps
set_option maxRecDepth 100000

def varN (m : Mdl) : List (B8 × Nat) := m.vars.map fun i => (i.name, i.pos)
def prcN (m : Mdl) : List (B8 × Nat) := m.procs.map fun i => (i.name, i.pos)
def namD (m : Mdl) : List Dg := twD (varN m ++ prcN m) []
/-- What is read of a procedure, but for its body. -/
def PrcF (w : World) (p : Prc) (cs : List Value) : Prop := ∃ vP vU aB nB cB, cs = prcV p vP vU (.slice aB nB cB) ∧ TRows w 3 (fun q c => c = parV q) vP p.params ∧ TRows w 1 (fun x c => c = [Value.string (tx x)]) vU p.uses

set_option maxHeartbeats 16000000 in
theorem names_walk (lo b : Nat) (md : B8) (al : Value) (nl : Nat) (L : List B8) (vd : Value) (nd : Nat) (D : List Dg) (m : Mdl) (vI vV vP : Value) (w0 w : World) (h : CkAt w lo b md al nl L vd nd D) (hg0 : Grow w0 w) (hb : w0.heap.size ≤ b) (hV : TRows w0 4 (fun i c => c = varV i) vV m.vars) (hP : TRows w0 8 (PrcF w0) vP m.procs) (hlv : m.vars.length ≤ 100000) (hlp : m.procs.length ≤ 100000) (hnv : ∀ i ∈ m.vars, i.name.length ≤ maxLen) (hnp : ∀ i ∈ m.procs, i.name.length ≤ maxLen) (hn : Hid (nd + m.vars.length + m.procs.length + 1 ≤ 100000000000)) :
    Calls Tryz.prog 73 #[.pointer (some ⟨b, 0, none⟩), .agg (mdlV m vI vV vP).toArray] w (CkTold w lo b md al nl L vd (D ++ namD m)) := by
  obtain ⟨ad, cd, rfl⟩ := h.own.shape
  obtain ⟨aV, cV, rfl⟩ := hV.shape
  obtain ⟨aP, cP, rfl⟩ := hP.shape
  obtain ⟨nV, hnV⟩ : ∃ n, m.vars.length = n := ⟨_, rfl⟩
  obtain ⟨nP, hnP⟩ : ∃ n, m.procs.length = n := ⟨_, rfl⟩
  rw [hnV] at hV hlv hn ⊢
  rw [hnP] at hP hlp hn ⊢
  obtain ⟨w1, hw1⟩ : ∃ w1, w.alloc (.cells #[.string (tx m.name), .int .i64 (m.pos : Int), vI, .slice aV nV cV, .slice aP nP cP] 26) = w1 := ⟨_, rfl⟩
  have hb1 : w1.heap[w.heap.size]? = some (.cells #[.string (tx m.name), .int .i64 (m.pos : Int), vI, .slice aV nV cV, .slice aP nP cP] 26) := by rw [← hw1]; exact heap_alloc_new _ _
  have hg1 : Grow w w1 := by rw [← hw1]; exact (Below.refl _ w).alloc (Nat.le_refl _) _
  have HV := Lib.hid (And.intro hV (And.intro hnV hnv))
  have HP := Lib.hid (And.intro hP (And.intro hnP hnp))
  have H := Lib.hid (And.intro h (And.intro hg0 (And.intro hg1 hb1)))
  have hmm : (Instr.makeMap 162 none).run Tryz.prog w1 = .ok (.map (some w1.heap.size)) (w1.alloc (.map #[] 0)) := rfl
  obtain ⟨w3, hw3⟩ : ∃ w3, w1.alloc (.map #[] 0) = w3 := ⟨_, rfl⟩
  have hg3 : Grow w1 w3 := by rw [← hw3]; exact (Below.refl _ w1).alloc (Nat.le_refl _) _
  have hO : Once w1 lo b md al nl L (.slice ad nd cd) D w1.heap.size [] ad nd cd w3 := ⟨(h.later hg1).later hg3, by rw [← hw3]; exact SetM.made w1, Chg.of_below hg3, .inl rfl⟩
  have hs1 : w.heap.size + 1 = w1.heap.size := by rw [← hw1]; simp
  have hb3 := hO.keep hb1 (by omega) (by have := h.lt; omega) (fun j hj => by have := (h.ge hj).2; omega)
  have q3 : w3.cell? ⟨w.heap.size, 3, none⟩ = some (.slice aV nV cV) := cellsN hb3 3 _ rfl
  have HO := Lib.hid hO
  have HK : Hid (nd + nV + nP + 1 ≤ 100000000000 ∧ w0.heap.size ≤ b ∧ (∀ k, (Value.slice ad nd cd).ownBlock = some k → w0.heap.size ≤ k) ∧ w0.heap.size ≤ w1.heap.size ∧ nd = D.length) := Lib.hid ⟨hn.out, hb, fun k hk => by have := (H.out.1.ge hk).1; omega, by have := H.out.2.1.size; have := H.out.2.2.1.size; omega, H.out.1.own.1⟩
  clear h hV hP hnV hnP hnv hnp hb1 hg0 hg1
  simp only [mdlV]
  go_enter Tryz.func73, Tryz.ntmps73
  go_upto_region 2 with fail
  have HS1 := Lib.hid hs1
  have HW3 := Lib.hid hw3
  try rw [hw3]
  obtain ⟨s, hsdef⟩ : ∃ s, w1.heap.size = s := ⟨_, rfl⟩
  rw [hsdef] at HO HK ⊢
  have HSD := Lib.hid hsdef
  clear hO hb3 hs1 hw1 hw3 hmm hb hn hsdef hg3
  go_wp2_with fail
  go_loopw [13] (fun i wr => ∃ k ad' n' c', k ≤ nV ∧ i = .int .i64 (k : Nat) ∧ Hid (Once w1 lo b md al nl L (.slice ad nd cd) (D ++ twD ((varN m).take k) []) s ([] ++ ((varN m).take k).map (·.1)) ad' n' c' wr)) (fun i _ => nV - (RowKit.intOf i).toNat)
  case atStart => exact ⟨0, ad, nd, cd, Nat.zero_le _, rfl, Lib.hid (by simpa [twD] using HO.out)⟩
  case round =>
    obtain ⟨k, ad', n', c', hk, rfl, hs⟩ := hrel
    by_cases hlt : k < nV
    · have hk2 : (k : Int) < (nV : Int) := by omega
      have hk0 : (0 : Int) ≤ (k : Int) := by omega
      have hgr := hs.out.low (Grow.trans H.out.2.1 H.out.2.2.1) HK.out.2.1 HK.out.2.2.2.1 HK.out.2.2.1
      obtain ⟨a, i, cs, rfl, hi, rfl, _, hc⟩ := (HV.out.1.imp hgr (fun _ _ h => h)).at hlt
      have e0 : wr.cell? (a.add (k * 4)) = some (.string (tx i.name)) := hc.1 _ rfl
      have e1 : wr.cell? ⟨(a.add (k * 4)).block, (a.add (k * 4)).off + 1, none⟩ = some (.string (tx i.label)) := hc.2 1 _ (by decide) rfl
      have e2 : wr.cell? ⟨(a.add (k * 4)).block, (a.add (k * 4)).off + 2, none⟩ = some (.int .i64 i.init) := hc.2 2 _ (by decide) rfl
      have e3 : wr.cell? ⟨(a.add (k * 4)).block, (a.add (k * 4)).off + 3, none⟩ = some (.int .i64 (i.pos : Int)) := hc.2 3 _ (by decide) rfl
      have hx : ((varN m))[k]? = some (i.name, i.pos) := by unfold varN; rw [List.getElem?_map, hi]; rfl
      obtain ⟨W, hW⟩ : ∃ W, wr.alloc (.cells #[.string (tx i.name), .string (tx i.label), .int .i64 i.init, .int .i64 (i.pos : Int)] 76) = W := ⟨_, rfl⟩
      have hgW : Grow wr W := by rw [← hW]; exact (Below.refl _ wr).alloc (Nat.le_refl _) _
      have hnew : W.heap[wr.heap.size]? = some (.cells #[.string (tx i.name), .string (tx i.label), .int .i64 i.init, .int .i64 (i.pos : Int)] 76) := by rw [← hW]; exact heap_alloc_new _ _
      have f0 : W.cell? ⟨wr.heap.size, 0, none⟩ = some (.string (tx i.name)) := cellsN hnew 0 _ rfl
      have f1 : W.cell? ⟨wr.heap.size, 1, none⟩ = some (.string (tx i.label)) := cellsN hnew 1 _ rfl
      have f2 : W.cell? ⟨wr.heap.size, 2, none⟩ = some (.int .i64 i.init) := cellsN hnew 2 _ rfl
      have f3 : W.cell? ⟨wr.heap.size, 3, none⟩ = some (.int .i64 (i.pos : Int)) := cellsN hnew 3 _ rfl
      have hln : n' ≤ nd + 0 + k := by
        have h1 := hs.out.ck.own.1
        have h2 := twD_len ((varN m).take k) ([])
        rw [List.length_append] at h1
        rw [List.length_take] at h2
        have := HK.out.2.2.2.2
        skip
        omega
      have P := once_walk lo b md al nl L _ n' _ s _ i.name i.pos W (hs.out.ck.later hgW) (hs.out.set.chg (F := []) (Chg.of_below hgW) (by simp)) (Lib.hid (by have := HK.out.1; omega)) (by simp only [List.length_append, List.length_map, List.length_take, List.length_nil]; omega) (HV.out.2.2 i (List.mem_of_getElem? hi))
      have HS : Hid (∀ e w2, OnceTold W lo b md al nl L (.slice ad' n' c') (D ++ twD ((varN m).take k) [] ++ onceD ([] ++ ((varN m).take k).map (·.1)) i.name i.pos) s ([] ++ ((varN m).take k).map (·.1) ++ [i.name]) e w2 → e = .returned (.tuple #[]) ∧ ∃ ad2 n2 c2, Once w1 lo b md al nl L (.slice ad nd cd) (D ++ twD ((varN m).take (k + 1)) []) s ([] ++ ((varN m).take (k + 1)).map (·.1)) ad2 n2 c2 w2) := Lib.hid fun e w2 ht => by
        have := hs.out.next hgW ht
        rw [twD_next hx, ← List.append_assoc, List.take_add_one, hx, Option.toList_some, List.map_append, ← List.append_assoc]
        exact this
      clear hs hi hc hx hgW hnew hgr hln
      go_wp2_with (go_at_call 107; refine P.mono ?_; rintro e w2 ht; obtain ⟨rfl, ad2, n2, c2, h2⟩ := HS.out e w2 ht; have H2 := Lib.hid h2; clear ht h2)
      exact ⟨⟨k + 1, ad2, n2, c2, by omega, by go_num, H2⟩, by simp [RowKit.intOf]; omega⟩
    · have hk2 : ¬ (k : Int) < (nV : Int) := by omega
      obtain rfl : nV = k := by omega
      have HO2 : Hid (Once w1 lo b md al nl L (.slice ad nd cd) (D ++ twD (varN m) [] ++ twD ((prcN m).take 0) ([] ++ (varN m).map (·.1))) s ([] ++ (varN m).map (·.1) ++ ((prcN m).take 0).map (·.1)) ad' n' c' wr) := Lib.hid (by
        have := hs.out
        rw [List.take_of_length_le (by unfold varN; rw [List.length_map, HV.out.2.1]; exact Nat.le_refl _)] at this
        simpa [twD] using this)
      have hb4 := hs.out.keep H.out.2.2.2 (by have := HSD.out; have := HS1.out; omega) (by have := H.out.1.lt; omega) (fun j hj => by have := (H.out.1.ge hj).2; omega)
      have q4 : wr.cell? ⟨w.heap.size, 4, none⟩ = some (.slice aP nP cP) := cellsN hb4 4 _ rfl
      clear hs hb4
      go_wp2_with fail
      go_loopw [28] (fun i wr => ∃ k ad' n' c', k ≤ nP ∧ i = .int .i64 (k : Nat) ∧ Hid (Once w1 lo b md al nl L (.slice ad nd cd) (D ++ twD (varN m) [] ++ twD ((prcN m).take k) ([] ++ (varN m).map (·.1))) s (([] ++ (varN m).map (·.1)) ++ ((prcN m).take k).map (·.1)) ad' n' c' wr)) (fun i _ => nP - (RowKit.intOf i).toNat)
      case atStart => exact ⟨0, ad', n', c', Nat.zero_le _, rfl, HO2⟩
      case round =>
        obtain ⟨k, ad', n', c', hk, rfl, hs⟩ := hrel
        by_cases hlt : k < nP
        · have hk2 : (k : Int) < (nP : Int) := by omega
          have hk0 : (0 : Int) ≤ (k : Int) := by omega
          have hgr := hs.out.low (Grow.trans H.out.2.1 H.out.2.2.1) HK.out.2.1 HK.out.2.2.2.1 HK.out.2.2.1
          obtain ⟨a, i, cs, rfl, hi, ⟨vQ, vU, aB, nB, cB, rfl, hq, hu⟩, _, hc⟩ := (HP.out.1.imp hgr (fun _ _ h => h)).at hlt
          obtain ⟨aQ, cQ, rfl⟩ := hq.shape
          obtain ⟨aU, cU, rfl⟩ := hu.shape
          have e0 : wr.cell? (a.add (k * 8)) = some (.string (tx i.name)) := hc.1 _ rfl
          have e1 : wr.cell? ⟨(a.add (k * 8)).block, (a.add (k * 8)).off + 1, none⟩ = some (.slice aQ i.params.length cQ) := hc.2 1 _ (by decide) rfl
          have e2 : wr.cell? ⟨(a.add (k * 8)).block, (a.add (k * 8)).off + 2, none⟩ = some (.bool i.has) := hc.2 2 _ (by decide) rfl
          have e3 : wr.cell? ⟨(a.add (k * 8)).block, (a.add (k * 8)).off + 3, none⟩ = some (.string (tx i.result)) := hc.2 3 _ (by decide) rfl
          have e4 : wr.cell? ⟨(a.add (k * 8)).block, (a.add (k * 8)).off + 4, none⟩ = some (.string (tx i.pc)) := hc.2 4 _ (by decide) rfl
          have e5 : wr.cell? ⟨(a.add (k * 8)).block, (a.add (k * 8)).off + 5, none⟩ = some (.slice aU i.uses.length cU) := hc.2 5 _ (by decide) rfl
          have e6 : wr.cell? ⟨(a.add (k * 8)).block, (a.add (k * 8)).off + 6, none⟩ = some (.slice aB nB cB) := hc.2 6 _ (by decide) rfl
          have e7 : wr.cell? ⟨(a.add (k * 8)).block, (a.add (k * 8)).off + 7, none⟩ = some (.int .i64 (i.pos : Int)) := hc.2 7 _ (by decide) rfl
          have hx : ((prcN m))[k]? = some (i.name, i.pos) := by unfold prcN; rw [List.getElem?_map, hi]; rfl
          obtain ⟨W, hW⟩ : ∃ W, wr.alloc (.cells #[.string (tx i.name), .slice aQ i.params.length cQ, .bool i.has, .string (tx i.result), .string (tx i.pc), .slice aU i.uses.length cU, .slice aB nB cB, .int .i64 (i.pos : Int)] 66) = W := ⟨_, rfl⟩
          have hgW : Grow wr W := by rw [← hW]; exact (Below.refl _ wr).alloc (Nat.le_refl _) _
          have hnew : W.heap[wr.heap.size]? = some (.cells #[.string (tx i.name), .slice aQ i.params.length cQ, .bool i.has, .string (tx i.result), .string (tx i.pc), .slice aU i.uses.length cU, .slice aB nB cB, .int .i64 (i.pos : Int)] 66) := by rw [← hW]; exact heap_alloc_new _ _
          have f0 : W.cell? ⟨wr.heap.size, 0, none⟩ = some (.string (tx i.name)) := cellsN hnew 0 _ rfl
          have f1 : W.cell? ⟨wr.heap.size, 1, none⟩ = some (.slice aQ i.params.length cQ) := cellsN hnew 1 _ rfl
          have f2 : W.cell? ⟨wr.heap.size, 2, none⟩ = some (.bool i.has) := cellsN hnew 2 _ rfl
          have f3 : W.cell? ⟨wr.heap.size, 3, none⟩ = some (.string (tx i.result)) := cellsN hnew 3 _ rfl
          have f4 : W.cell? ⟨wr.heap.size, 4, none⟩ = some (.string (tx i.pc)) := cellsN hnew 4 _ rfl
          have f5 : W.cell? ⟨wr.heap.size, 5, none⟩ = some (.slice aU i.uses.length cU) := cellsN hnew 5 _ rfl
          have f6 : W.cell? ⟨wr.heap.size, 6, none⟩ = some (.slice aB nB cB) := cellsN hnew 6 _ rfl
          have f7 : W.cell? ⟨wr.heap.size, 7, none⟩ = some (.int .i64 (i.pos : Int)) := cellsN hnew 7 _ rfl
          have hln : n' ≤ nd + nV + k := by
            have h1 := hs.out.ck.own.1
            have h2 := twD_len ((prcN m).take k) (([] ++ (varN m).map (·.1)))
            rw [List.length_append] at h1
            rw [List.length_take] at h2
            have := HK.out.2.2.2.2
            have h3 := twD_len (varN m) []
            rw [List.length_append] at h1
            have h4 : (varN m).length = nV := by unfold varN; rw [List.length_map]; exact HV.out.2.1
            omega
          have P := once_walk lo b md al nl L _ n' _ s _ i.name i.pos W (hs.out.ck.later hgW) (hs.out.set.chg (F := []) (Chg.of_below hgW) (by simp)) (Lib.hid (by have := HK.out.1; omega)) (by have h4 : (varN m).length = nV := (by unfold varN; rw [List.length_map]; exact HV.out.2.1); simp only [List.length_append, List.length_map, List.length_take, List.length_nil]; omega) (HP.out.2.2 i (List.mem_of_getElem? hi))
          have HS : Hid (∀ e w2, OnceTold W lo b md al nl L (.slice ad' n' c') (D ++ twD (varN m) [] ++ twD ((prcN m).take k) ([] ++ (varN m).map (·.1)) ++ onceD (([] ++ (varN m).map (·.1)) ++ ((prcN m).take k).map (·.1)) i.name i.pos) s (([] ++ (varN m).map (·.1)) ++ ((prcN m).take k).map (·.1) ++ [i.name]) e w2 → e = .returned (.tuple #[]) ∧ ∃ ad2 n2 c2, Once w1 lo b md al nl L (.slice ad nd cd) (D ++ twD (varN m) [] ++ twD ((prcN m).take (k + 1)) ([] ++ (varN m).map (·.1))) s (([] ++ (varN m).map (·.1)) ++ ((prcN m).take (k + 1)).map (·.1)) ad2 n2 c2 w2) := Lib.hid fun e w2 ht => by
            have := hs.out.next hgW ht
            rw [twD_next hx, ← List.append_assoc, List.take_add_one, hx, Option.toList_some, List.map_append, ← List.append_assoc]
            exact this
          clear hs hi hc hx hgW hnew hgr hln
          go_wp2_with (go_at_call 107; refine P.mono ?_; rintro e w2 ht; obtain ⟨rfl, ad2, n2, c2, h2⟩ := HS.out e w2 ht; have H2 := Lib.hid h2; clear ht h2)
          exact ⟨⟨k + 1, ad2, n2, c2, by omega, by go_num, H2⟩, by simp [RowKit.intOf]; omega⟩
        · have hk2 : ¬ (k : Int) < (nP : Int) := by omega
          obtain rfl : nP = k := by omega
          have HE : Hid (CkTold w lo b md al nl L (.slice ad nd cd) (D ++ namD m) (.returned (.tuple #[])) wr) := Lib.hid (by
            have := hs.out.told H.out.2.2.1 (by have := HSD.out; have := H.out.2.2.1.size; omega)
            rw [List.take_of_length_le (by unfold prcN; rw [List.length_map, HP.out.2.1]; exact Nat.le_refl _), List.append_assoc] at this
            unfold namD
            rw [twD_append]
            exact this)
          clear hs
          go_wp2_with fail
          go_end0
          exact HE.out

end Go.Proofs.YtlgfijjkbomejaaGreatDoor

/- The checker of interfaces over a module: its parameters. Numbers and types by name. -/
namespace Go.Proofs.YtlgfijjkbomejaaGreatDoor
open Go.RowKit Go.Lib Go.Sort Go.Maps Go.WideMaps
set_option maxRecDepth 100000

def parN (p : Prc) : List (B8 × Nat) := p.params.map fun i => (i.name, i.pos)
def parD (m : Mdl) : List Dg := m.procs.flatMap fun p => twD (parN p) []
theorem flat_next {α β : Type} {l : List α} {k : Nat} {x : α} (h : l[k]? = some x) (f : α → List β) : (l.take (k + 1)).flatMap f = (l.take k).flatMap f ++ f x := by
  rw [List.take_add_one, h, Option.toList_some, List.flatMap_append]
  simp
theorem flat_len {α β : Type} (f : α → List β) (N : Nat) : ∀ (l : List α), (∀ x ∈ l, (f x).length ≤ N) → (l.flatMap f).length ≤ l.length * N
  | [], _ => by simp
  | x :: l, h => by
    have h1 := h x (by simp)
    have h2 := flat_len f N l (fun y hy => h y (List.mem_cons_of_mem _ hy))
    rw [List.flatMap_cons, List.length_append, List.length_cons, Nat.succ_mul]
    omega
/-- What is told, on the way. -/
structure Ck1 (w : World) (lo b : Nat) (md : B8) (al : Value) (nl : Nat) (L : List B8) (vd : Value) (D : List Dg) (ad : Option Addr) (n c : Nat) (w' : World) : Prop where
  ck : CkAt w' lo b md al nl L (.slice ad n c) n D
  chg : Chg (b :: rowF vd) w w'
  fr : FromRow w vd (.slice ad n c)
theorem Ck1.next {w : World} {lo b : Nat} {md : B8} {al : Value} {nl : Nat} {L : List B8} {vd : Value} {D : List Dg} {ad : Option Addr} {n c : Nat} {w' : World} (h : Ck1 w lo b md al nl L vd D ad n c w') {w1 : World} (hg : Grow w' w1) {D' : List Dg} {e : Ending} {w2 : World}
    (k : CkTold w1 lo b md al nl L (.slice ad n c) D' e w2) : e = .returned (.tuple #[]) ∧ ∃ ad2 n2 c2, Ck1 w lo b md al nl L vd D' ad2 n2 c2 w2 := by
  obtain ⟨rfl, ad2, n2, c2, k1, k3, k4⟩ := k
  have f1 : FromRow w' (.slice ad n c) (.slice ad2 n2 c2) := by
    rcases k4 with h1 | h1
    · exact .inl h1
    · exact .inr fun j hj => Nat.le_trans hg.size (h1 j hj)
  have c1 : Chg (b :: rowF vd) w w1 := h.chg.trans' (Chg.of_below (F := []) hg) (fun x hx => by cases hx)
  refine ⟨rfl, ad2, n2, c2, k1, c1.trans' k3 (fun x hx => ?_), h.fr.trans f1 h.chg.size⟩
  rcases List.mem_cons.1 hx with rfl | hx
  · exact .inl (by simp)
  · exact h.fr.mem hx (fun y hy => List.mem_cons_of_mem _ hy)
theorem Ck1.low {w1 : World} {lo b : Nat} {md : B8} {al : Value} {nl : Nat} {L : List B8} {vd : Value} {D : List Dg} {ad : Option Addr} {n c : Nat} {wr : World} (h : Ck1 w1 lo b md al nl L vd D ad n c wr) {w0 : World} (hg : Grow w0 w1) (hb : w0.heap.size ≤ b) (hv : ∀ k, vd.ownBlock = some k → w0.heap.size ≤ k) : Grow w0 wr :=
  Below.trans hg (h.chg.below hg.size (fun x hx => by
    rcases List.mem_cons.1 hx with rfl | hx
    · exact hb
    · exact hv x (rowF_mem.1 hx)))
theorem Ck1.keep {w1 : World} {lo b : Nat} {md : B8} {al : Value} {nl : Nat} {L : List B8} {vd : Value} {D : List Dg} {ad : Option Addr} {n c : Nat} {wr : World} (h : Ck1 w1 lo b md al nl L vd D ad n c wr) {k : Nat} {o : Obj} (hk : w1.heap[k]? = some o) (h2 : k ≠ b) (h3 : ∀ j, vd.ownBlock = some j → j ≠ k) : wr.heap[k]? = some o :=
  (h.chg.block k (Array.getElem?_eq_some_iff.1 hk).1 (fun hm => by
    rcases List.mem_cons.1 hm with e | hm
    · exact h2 e
    · exact h3 k (rowF_mem.1 hm) rfl)).trans hk
theorem Ck1.told {w w1 : World} {lo b : Nat} {md : B8} {al : Value} {nl : Nat} {L : List B8} {vd : Value} {D : List Dg} {ad : Option Addr} {n c : Nat} {wr : World} (h : Ck1 w1 lo b md al nl L vd D ad n c wr) (hg : Grow w w1) : CkTold w lo b md al nl L vd D (.returned (.tuple #[])) wr := by
  refine ⟨rfl, ad, n, c, h.ck, (Chg.of_below (F := b :: rowF vd) hg).trans' h.chg (fun x hx => .inl hx), ?_⟩
  rcases h.fr with h1 | h1
  · exact .inl h1
  · exact .inr fun k hk => Nat.le_trans hg.size (h1 k hk)

set_option maxHeartbeats 16000000 in
theorem params_walk (lo b : Nat) (md : B8) (al : Value) (nl : Nat) (L : List B8) (vd : Value) (nd : Nat) (D : List Dg) (m : Mdl) (vI vV vP : Value) (w0 w : World) (h : CkAt w lo b md al nl L vd nd D) (hg0 : Grow w0 w) (hb : w0.heap.size ≤ b) (hP : TRows w0 8 (PrcF w0) vP m.procs) (hlp : m.procs.length ≤ 100000) (hpp : ∀ p ∈ m.procs, p.params.length ≤ 100000 ∧ ∀ q ∈ p.params, q.name.length ≤ maxLen) (hn : Hid (nd ≤ 20000000000)) :
    Calls Tryz.prog 74 #[.pointer (some ⟨b, 0, none⟩), .agg (mdlV m vI vV vP).toArray] w (CkTold w lo b md al nl L vd (D ++ parD m)) := by
  obtain ⟨ad, cd, rfl⟩ := h.own.shape
  obtain ⟨aP, cP, rfl⟩ := hP.shape
  obtain ⟨nP, hnP⟩ : ∃ n, m.procs.length = n := ⟨_, rfl⟩
  rw [hnP] at hP hlp ⊢
  obtain ⟨w1, hw1⟩ : ∃ w1, w.alloc (.cells #[.string (tx m.name), .int .i64 (m.pos : Int), vI, vV, .slice aP nP cP] 26) = w1 := ⟨_, rfl⟩
  have hb1 : w1.heap[w.heap.size]? = some (.cells #[.string (tx m.name), .int .i64 (m.pos : Int), vI, vV, .slice aP nP cP] 26) := by rw [← hw1]; exact heap_alloc_new _ _
  have hg1 : Grow w w1 := by rw [← hw1]; exact (Below.refl _ w).alloc (Nat.le_refl _) _
  have HP := Lib.hid (And.intro hP (And.intro hnP hpp))
  have H := Lib.hid (And.intro h (And.intro hg0 hg1))
  have q4 : w1.cell? ⟨w.heap.size, 4, none⟩ = some (.slice aP nP cP) := cellsN hb1 4 _ rfl
  have hO : Ck1 w1 lo b md al nl L (.slice ad nd cd) D ad nd cd w1 := ⟨h.later hg1, Chg.refl _ _, .inl rfl⟩
  have HO := Lib.hid hO
  have HK : Hid (nd ≤ 20000000000 ∧ w0.heap.size ≤ b ∧ (∀ k, (Value.slice ad nd cd).ownBlock = some k → w0.heap.size ≤ k) ∧ w0.heap.size ≤ w1.heap.size ∧ nd = D.length) := Lib.hid ⟨hn.out, hb, fun k hk => by have := (H.out.1.ge hk).1; omega, by have := H.out.2.1.size; have := H.out.2.2.size; omega, H.out.1.own.1⟩
  clear h hP hnP hpp hb1 hg0 hg1 hO hb hn
  simp only [mdlV]
  go_enter Tryz.func74, Tryz.ntmps74
  go_wp2_with fail
  clear hw1
  go_loopw [12] (fun i wr => ∃ k ad' n' c', k ≤ nP ∧ i = .int .i64 (k : Nat) ∧ Hid (Ck1 w1 lo b md al nl L (.slice ad nd cd) (D ++ (m.procs.take k).flatMap fun p => twD (parN p) []) ad' n' c' wr)) (fun i _ => nP - (RowKit.intOf i).toNat)
  case atStart => exact ⟨0, ad, nd, cd, Nat.zero_le _, rfl, Lib.hid (by simpa using HO.out)⟩
  case round =>
    obtain ⟨k, ad', n', c', hk, rfl, hs⟩ := hrel
    by_cases hlt : k < nP
    · have hk2 : (k : Int) < (nP : Int) := by omega
      have hk0 : (0 : Int) ≤ (k : Int) := by omega
      have hgr := hs.out.low (Grow.trans H.out.2.1 H.out.2.2) HK.out.2.1 HK.out.2.2.1
      obtain ⟨a, i0, cs, rfl, hi, ⟨vQ, vU, aB, nB, cB, rfl, hq, hu⟩, _, hc⟩ := (HP.out.1.imp hgr (fun _ _ h => h)).at hlt
      obtain ⟨aQ, cQ, rfl⟩ := hq.shape
      obtain ⟨aU, cU, rfl⟩ := hu.shape
      obtain ⟨nQ, hnQ⟩ : ∃ n, i0.params.length = n := ⟨_, rfl⟩
      rw [hnQ] at hq hc
      have hpi := HP.out.2.2 i0 (List.mem_of_getElem? hi)
      rw [hnQ] at hpi
      have hq100 : nQ ≤ 100000 := hpi.1
      have e0 : wr.cell? (a.add (k * 8)) = some (.string (tx i0.name)) := hc.1 _ rfl
      have e1 : wr.cell? ⟨(a.add (k * 8)).block, (a.add (k * 8)).off + 1, none⟩ = some (.slice aQ nQ cQ) := hc.2 1 _ (by decide) rfl
      have e2 : wr.cell? ⟨(a.add (k * 8)).block, (a.add (k * 8)).off + 2, none⟩ = some (.bool i0.has) := hc.2 2 _ (by decide) rfl
      have e3 : wr.cell? ⟨(a.add (k * 8)).block, (a.add (k * 8)).off + 3, none⟩ = some (.string (tx i0.result)) := hc.2 3 _ (by decide) rfl
      have e4 : wr.cell? ⟨(a.add (k * 8)).block, (a.add (k * 8)).off + 4, none⟩ = some (.string (tx i0.pc)) := hc.2 4 _ (by decide) rfl
      have e5 : wr.cell? ⟨(a.add (k * 8)).block, (a.add (k * 8)).off + 5, none⟩ = some (.slice aU i0.uses.length cU) := hc.2 5 _ (by decide) rfl
      have e6 : wr.cell? ⟨(a.add (k * 8)).block, (a.add (k * 8)).off + 6, none⟩ = some (.slice aB nB cB) := hc.2 6 _ (by decide) rfl
      have e7 : wr.cell? ⟨(a.add (k * 8)).block, (a.add (k * 8)).off + 7, none⟩ = some (.int .i64 (i0.pos : Int)) := hc.2 7 _ (by decide) rfl
      obtain ⟨W, hW⟩ : ∃ W, wr.alloc (.cells #[.string (tx i0.name), .slice aQ nQ cQ, .bool i0.has, .string (tx i0.result), .string (tx i0.pc), .slice aU i0.uses.length cU, .slice aB nB cB, .int .i64 (i0.pos : Int)] 66) = W := ⟨_, rfl⟩
      have hgW : Grow wr W := by rw [← hW]; exact (Below.refl _ wr).alloc (Nat.le_refl _) _
      have hnew : W.heap[wr.heap.size]? = some (.cells #[.string (tx i0.name), .slice aQ nQ cQ, .bool i0.has, .string (tx i0.result), .string (tx i0.pc), .slice aU i0.uses.length cU, .slice aB nB cB, .int .i64 (i0.pos : Int)] 66) := by rw [← hW]; exact heap_alloc_new _ _
      have hmm : (Instr.makeMap 162 none).run Tryz.prog W = .ok (.map (some W.heap.size)) (W.alloc (.map #[] 0)) := rfl
      obtain ⟨V, hV⟩ : ∃ V, W.alloc (.map #[] 0) = V := ⟨_, rfl⟩
      have hgV : Grow W V := by rw [← hV]; exact (Below.refl _ W).alloc (Nat.le_refl _) _
      have f1 : V.cell? ⟨wr.heap.size, 1, none⟩ = some (.slice aQ nQ cQ) := (hgV.cell (Array.getElem?_eq_some_iff.1 hnew).1).trans (cellsN hnew 1 _ rfl)
      have hOn : Once V lo b md al nl L (.slice ad' n' c') (D ++ (m.procs.take k).flatMap fun p => twD (parN p) []) W.heap.size [] ad' n' c' V := ⟨(hs.out.ck.later hgW).later hgV, by rw [← hV]; exact SetM.made W, Chg.refl _ _, .inl rfl⟩
      have hln : n' ≤ nd + k * 100000 := by
        have h1 := hs.out.ck.own.1
        have h2 := flat_len (fun p => twD (parN p) []) 100000 (m.procs.take k) (fun p hp => by
          have h3 := twD_len (parN p) []
          have h4 := (HP.out.2.2 p (List.mem_of_mem_take hp)).1
          unfold parN at h3 ⊢
          rw [List.length_map] at h3
          omega)
        rw [List.length_append] at h1
        have h5 : (m.procs.take k).length ≤ k := by rw [List.length_take]; omega
        have h6 := Nat.mul_le_mul_right 100000 h5
        have := HK.out.2.2.2.2
        omega
      have HQ := Lib.hid (And.intro hq (And.intro hnQ hpi.2))
      have HG := Lib.hid (And.intro hgr (Grow.trans hgW hgV))
      have HON := Lib.hid hOn
      have HSZ : Hid (wr.heap.size ≤ W.heap.size ∧ n' ≤ nd + k * 100000 ∧ w0.heap.size ≤ W.heap.size ∧ (∀ j, (Value.slice ad' n' c').ownBlock = some j → w0.heap.size ≤ j) ∧ n' = (D ++ (m.procs.take k).flatMap fun p => twD (parN p) []).length) := Lib.hid ⟨hgW.size, hln, by have := hgr.size; have := hgW.size; omega, fun j hj => by have := (hs.out.ck.ge hj).1; have := HK.out.2.1; omega, hs.out.ck.own.1⟩
      obtain ⟨s, hsdef⟩ : ∃ s, W.heap.size = s := ⟨_, rfl⟩
      have HS0 := Lib.hid (And.intro hs.out hi)
      clear hs hi hc hq hu hpi hgW hgV hnew hgr hln hOn hnQ
      go_upto_region 5 with fail
      have HVW := Lib.hid (And.intro hV hW)
      try rw [hV]
      rw [hsdef] at HON HSZ
      clear hV hW hmm hsdef e0 e1 e2 e3 e4 e5 e6 e7
      go_wp2_with fail
      go_loopw [20] (fun i wr2 => ∃ k2 ad2 n2 c2, k2 ≤ nQ ∧ i = .int .i64 (k2 : Nat) ∧ Hid (Once V lo b md al nl L (.slice ad' n' c') ((D ++ (m.procs.take k).flatMap fun p => twD (parN p) []) ++ twD ((parN i0).take k2) []) s ([] ++ ((parN i0).take k2).map (·.1)) ad2 n2 c2 wr2)) (fun i _ => nQ - (RowKit.intOf i).toNat)
      case atStart => exact ⟨0, ad', n', c', Nat.zero_le _, rfl, Lib.hid (by simpa [twD] using HON.out)⟩
      case round =>
        obtain ⟨k2, ad2, n2, c2, hk', rfl, hs⟩ := hrel
        by_cases hlt' : k2 < nQ
        · have hk2' : (k2 : Int) < (nQ : Int) := by omega
          have hk0' : (0 : Int) ≤ (k2 : Int) := by omega
          have hgr := hs.out.low (Grow.trans HG.out.1 HG.out.2) HK.out.2.1 HSZ.out.2.2.1 HSZ.out.2.2.2.1
          obtain ⟨aq, i, cs, rfl, hi, rfl, _, hc⟩ := (HQ.out.1.imp hgr (fun _ _ h => h)).at hlt'
          have d0 : wr.cell? (aq.add (k2 * 3)) = some (.string (tx i.name)) := hc.1 _ rfl
          have d1 : wr.cell? ⟨(aq.add (k2 * 3)).block, (aq.add (k2 * 3)).off + 1, none⟩ = some (.string (tx i.label)) := hc.2 1 _ (by decide) rfl
          have d2 : wr.cell? ⟨(aq.add (k2 * 3)).block, (aq.add (k2 * 3)).off + 2, none⟩ = some (.int .i64 (i.pos : Int)) := hc.2 2 _ (by decide) rfl
          have hx : (parN i0)[k2]? = some (i.name, i.pos) := by unfold parN; rw [List.getElem?_map, hi]; rfl
          obtain ⟨W2, hW2⟩ : ∃ W2, wr.alloc (.cells #[.string (tx i.name), .string (tx i.label), .int .i64 (i.pos : Int)] 90) = W2 := ⟨_, rfl⟩
          have hgW : Grow wr W2 := by rw [← hW2]; exact (Below.refl _ wr).alloc (Nat.le_refl _) _
          have hnew : W2.heap[wr.heap.size]? = some (.cells #[.string (tx i.name), .string (tx i.label), .int .i64 (i.pos : Int)] 90) := by rw [← hW2]; exact heap_alloc_new _ _
          have g0 : W2.cell? ⟨wr.heap.size, 0, none⟩ = some (.string (tx i.name)) := cellsN hnew 0 _ rfl
          have g1 : W2.cell? ⟨wr.heap.size, 1, none⟩ = some (.string (tx i.label)) := cellsN hnew 1 _ rfl
          have g2 : W2.cell? ⟨wr.heap.size, 2, none⟩ = some (.int .i64 (i.pos : Int)) := cellsN hnew 2 _ rfl
          have hln : n2 ≤ n' + k2 := by
            have h1 := hs.out.ck.own.1
            have h2 := twD_len ((parN i0).take k2) []
            rw [List.length_append] at h1
            rw [List.length_take] at h2
            have := HSZ.out.2.2.2.2
            omega
          have P := once_walk lo b md al nl L _ n2 _ s _ i.name i.pos W2 (hs.out.ck.later hgW) (hs.out.set.chg (F := []) (Chg.of_below hgW) (by simp)) (Lib.hid (by have := HK.out.1; have := HSZ.out.2.1; have := Nat.mul_le_mul_right 100000 (show k ≤ 100000 by omega); omega)) (by simp only [List.length_append, List.length_map, List.length_take, List.length_nil]; omega) (HQ.out.2.2 i (List.mem_of_getElem? hi))
          have HS : Hid (∀ e w2, OnceTold W2 lo b md al nl L (.slice ad2 n2 c2) ((D ++ (m.procs.take k).flatMap fun p => twD (parN p) []) ++ twD ((parN i0).take k2) [] ++ onceD ([] ++ ((parN i0).take k2).map (·.1)) i.name i.pos) s ([] ++ ((parN i0).take k2).map (·.1) ++ [i.name]) e w2 → e = .returned (.tuple #[]) ∧ ∃ ad3 n3 c3, Once V lo b md al nl L (.slice ad' n' c') ((D ++ (m.procs.take k).flatMap fun p => twD (parN p) []) ++ twD ((parN i0).take (k2 + 1)) []) s ([] ++ ((parN i0).take (k2 + 1)).map (·.1)) ad3 n3 c3 w2) := Lib.hid fun e w2 ht => by
            have := hs.out.next hgW ht
            rw [twD_next hx, ← List.append_assoc, List.take_add_one, hx, Option.toList_some, List.map_append, ← List.append_assoc]
            exact this
          clear hs hi hc hx hgW hnew hgr hln
          go_wp2_with (go_at_call 107; refine P.mono ?_; rintro e w2 ht; obtain ⟨rfl, ad3, n3, c3, h2⟩ := HS.out e w2 ht; have H2 := Lib.hid h2; clear ht h2)
          exact ⟨⟨k2 + 1, ad3, n3, c3, by omega, by go_num, H2⟩, by simp [RowKit.intOf]; omega⟩
        · have hk2' : ¬ (k2 : Int) < (nQ : Int) := by omega
          obtain rfl : nQ = k2 := by omega
          have HE : Hid (∃ ad3 n3 c3, Ck1 w1 lo b md al nl L (.slice ad nd cd) (D ++ (m.procs.take (k + 1)).flatMap fun p => twD (parN p) []) ad3 n3 c3 wr) := Lib.hid (by
            have h1 := hs.out.told HG.out.2 HSZ.out.1
            rw [List.take_of_length_le (l := parN i0) (by unfold parN; rw [List.length_map, HQ.out.2.1]; exact Nat.le_refl _), List.append_assoc, ← flat_next HS0.out.2 (fun p => twD (parN p) [])] at h1
            exact (HS0.out.1.next (Grow.refl _) h1).2)
          clear hs
          go_wp2_with fail
          obtain ⟨ad3, n3, c3, h3⟩ := HE.out
          exact ⟨⟨k + 1, ad3, n3, c3, by omega, by go_num, Lib.hid h3⟩, by simp [RowKit.intOf]; omega⟩
    · have hk2 : ¬ (k : Int) < (nP : Int) := by omega
      obtain rfl : nP = k := by omega
      have HE : Hid (CkTold w lo b md al nl L (.slice ad nd cd) (D ++ parD m) (.returned (.tuple #[])) wr) := Lib.hid (by
        have := hs.out.told H.out.2.2
        rw [List.take_of_length_le (by rw [HP.out.2.1]; exact Nat.le_refl _)] at this
        exact this)
      clear hs
      go_wp2_with fail
      go_end0
      exact HE.out

end Go.Proofs.YtlgfijjkbomejaaGreatDoor

namespace Go.Proofs.YtlgfijjkbomejaaGreatDoor
open Go.RowKit Go.Lib Go.Sort Go.Maps Go.WideMaps
set_option maxRecDepth 100000

theorem labD_len (L : List B8) (n : B8) (p : Nat) : (labD L n p).length ≤ 1 := by unfold labD; split <;> simp
def prcD (L : List B8) (p : Prc) : List Dg := p.params.flatMap (fun q => labD L q.label q.pos) ++ ((if p.has = true then labD L p.result p.pos else []) ++ labD L p.pc p.pos)
def knoD (L : List B8) (m : Mdl) : List Dg := m.vars.flatMap (fun v => labD L v.label v.pos) ++ m.procs.flatMap (prcD L)
theorem prcD_len (L : List B8) (p : Prc) (h : p.params.length ≤ 100000) : (prcD L p).length ≤ 100002 := by
  have h1 := flat_len (fun q : Par => labD L q.label q.pos) 1 p.params (fun q _ => labD_len L _ _)
  have h2 := labD_len L p.result p.pos
  have h3 := labD_len L p.pc p.pos
  unfold prcD
  rw [List.length_append, List.length_append]
  split
  · omega
  · rw [List.length_nil]; omega

set_option maxHeartbeats 16000000 in
theorem known_walk (lo b : Nat) (md : B8) (al : Value) (nl : Nat) (L : List B8) (vd : Value) (nd : Nat) (D : List Dg) (m : Mdl) (vI vV vP : Value) (w0 w : World) (h : CkAt w lo b md al nl L vd nd D) (hg0 : Grow w0 w) (hb : w0.heap.size ≤ b) (hV : TRows w0 4 (fun i c => c = varV i) vV m.vars) (hP : TRows w0 8 (PrcF w0) vP m.procs) (hlv : m.vars.length ≤ 100000) (hlp : m.procs.length ≤ 100000) (hpp : ∀ p ∈ m.procs, p.params.length ≤ 100000) (hn : Hid (nd ≤ 20000000000)) (hl : nl ≤ 100000) (hR : RiseT L) :
    Calls Tryz.prog 75 #[.pointer (some ⟨b, 0, none⟩), .agg (mdlV m vI vV vP).toArray] w (CkTold w lo b md al nl L vd (D ++ knoD L m)) := by
  obtain ⟨ad, cd, rfl⟩ := h.own.shape
  obtain ⟨aV, cV, rfl⟩ := hV.shape
  obtain ⟨aP, cP, rfl⟩ := hP.shape
  obtain ⟨nV, hnV⟩ : ∃ n, m.vars.length = n := ⟨_, rfl⟩
  obtain ⟨nP, hnP⟩ : ∃ n, m.procs.length = n := ⟨_, rfl⟩
  rw [hnV] at hV hlv ⊢
  rw [hnP] at hP hlp ⊢
  obtain ⟨w1, hw1⟩ : ∃ w1, w.alloc (.cells #[.string (tx m.name), .int .i64 (m.pos : Int), vI, .slice aV nV cV, .slice aP nP cP] 26) = w1 := ⟨_, rfl⟩
  have hb1 : w1.heap[w.heap.size]? = some (.cells #[.string (tx m.name), .int .i64 (m.pos : Int), vI, .slice aV nV cV, .slice aP nP cP] 26) := by rw [← hw1]; exact heap_alloc_new _ _
  have hg1 : Grow w w1 := by rw [← hw1]; exact (Below.refl _ w).alloc (Nat.le_refl _) _
  have HV := Lib.hid (And.intro hV hnV)
  have HP := Lib.hid (And.intro hP (And.intro hnP hpp))
  have H := Lib.hid (And.intro h (And.intro hg0 (And.intro hg1 hb1)))
  have q3 : w1.cell? ⟨w.heap.size, 3, none⟩ = some (.slice aV nV cV) := cellsN hb1 3 _ rfl
  have HO : Hid (Ck1 w1 lo b md al nl L (.slice ad nd cd) D ad nd cd w1) := Lib.hid ⟨h.later hg1, Chg.refl _ _, .inl rfl⟩
  have HK : Hid (nd ≤ 20000000000 ∧ w0.heap.size ≤ b ∧ (∀ k, (Value.slice ad nd cd).ownBlock = some k → w0.heap.size ≤ k) ∧ w0.heap.size ≤ w1.heap.size ∧ nd = D.length) := Lib.hid ⟨hn.out, hb, fun k hk => by have := (H.out.1.ge hk).1; omega, by have := H.out.2.1.size; have := H.out.2.2.1.size; omega, H.out.1.own.1⟩
  have HR := Lib.hid hR
  clear h hV hP hnV hnP hpp hb1 hg0 hg1 hb hn hR
  simp only [mdlV]
  go_enter Tryz.func75, Tryz.ntmps75
  go_wp2_with fail
  clear hw1
  go_loopw [13] (fun i wr => ∃ k ad' n' c', k ≤ nV ∧ i = .int .i64 (k : Nat) ∧ Hid (Ck1 w1 lo b md al nl L (.slice ad nd cd) (D ++ (m.vars.take k).flatMap fun v => labD L v.label v.pos) ad' n' c' wr)) (fun i _ => nV - (RowKit.intOf i).toNat)
  case atStart => exact ⟨0, ad, nd, cd, Nat.zero_le _, rfl, Lib.hid (by simpa using HO.out)⟩
  case round =>
    obtain ⟨k, ad', n', c', hk, rfl, hs⟩ := hrel
    by_cases hlt : k < nV
    · have hk2 : (k : Int) < (nV : Int) := by omega
      have hk0 : (0 : Int) ≤ (k : Int) := by omega
      have hgr := hs.out.low (Grow.trans H.out.2.1 H.out.2.2.1) HK.out.2.1 HK.out.2.2.1
      obtain ⟨a, i, cs, rfl, hi, rfl, _, hc⟩ := (HV.out.1.imp hgr (fun _ _ h => h)).at hlt
      have e0 : wr.cell? (a.add (k * 4)) = some (.string (tx i.name)) := hc.1 _ rfl
      have e1 : wr.cell? ⟨(a.add (k * 4)).block, (a.add (k * 4)).off + 1, none⟩ = some (.string (tx i.label)) := hc.2 1 _ (by decide) rfl
      have e2 : wr.cell? ⟨(a.add (k * 4)).block, (a.add (k * 4)).off + 2, none⟩ = some (.int .i64 i.init) := hc.2 2 _ (by decide) rfl
      have e3 : wr.cell? ⟨(a.add (k * 4)).block, (a.add (k * 4)).off + 3, none⟩ = some (.int .i64 (i.pos : Int)) := hc.2 3 _ (by decide) rfl
      obtain ⟨W, hW⟩ : ∃ W, wr.alloc (.cells #[.string (tx i.name), .string (tx i.label), .int .i64 i.init, .int .i64 (i.pos : Int)] 76) = W := ⟨_, rfl⟩
      have hgW : Grow wr W := by rw [← hW]; exact (Below.refl _ wr).alloc (Nat.le_refl _) _
      have hnew : W.heap[wr.heap.size]? = some (.cells #[.string (tx i.name), .string (tx i.label), .int .i64 i.init, .int .i64 (i.pos : Int)] 76) := by rw [← hW]; exact heap_alloc_new _ _
      have f0 : W.cell? ⟨wr.heap.size, 0, none⟩ = some (.string (tx i.name)) := cellsN hnew 0 _ rfl
      have f1 : W.cell? ⟨wr.heap.size, 1, none⟩ = some (.string (tx i.label)) := cellsN hnew 1 _ rfl
      have f2 : W.cell? ⟨wr.heap.size, 2, none⟩ = some (.int .i64 i.init) := cellsN hnew 2 _ rfl
      have f3 : W.cell? ⟨wr.heap.size, 3, none⟩ = some (.int .i64 (i.pos : Int)) := cellsN hnew 3 _ rfl
      have hln : n' ≤ nd + k := by
        have h1 := hs.out.ck.own.1
        have h2 := flat_len (fun v : Vrb => labD L v.label v.pos) 1 (m.vars.take k) (fun v _ => labD_len L _ _)
        rw [List.length_append] at h1
        rw [List.length_take] at h2
        have := HK.out.2.2.2.2
        omega
      have P := label_walk lo b md al nl L _ n' _ i.label i.pos W (hs.out.ck.later hgW) (Lib.hid (by have := HK.out.1; omega)) hl HR.out
      have HS : Hid (∀ e w2, CkTold W lo b md al nl L (.slice ad' n' c') ((D ++ (m.vars.take k).flatMap fun v => labD L v.label v.pos) ++ labD L i.label i.pos) e w2 → e = .returned (.tuple #[]) ∧ ∃ ad2 n2 c2, Ck1 w1 lo b md al nl L (.slice ad nd cd) (D ++ (m.vars.take (k + 1)).flatMap fun v => labD L v.label v.pos) ad2 n2 c2 w2) := Lib.hid fun e w2 ht => by
        have := hs.out.next hgW ht
        rw [flat_next hi, ← List.append_assoc]
        exact this
      clear hs hi hc hgW hnew hgr hln
      go_wp2_with (go_at_call 108; refine P.mono ?_; rintro e w2 ht; obtain ⟨rfl, ad2, n2, c2, h2⟩ := HS.out e w2 ht; have H2 := Lib.hid h2; clear ht h2)
      exact ⟨⟨k + 1, ad2, n2, c2, by omega, by go_num, H2⟩, by simp [RowKit.intOf]; omega⟩
    · have hk2 : ¬ (k : Int) < (nV : Int) := by omega
      obtain rfl : nV = k := by omega
      obtain ⟨D1, hD1⟩ : ∃ D1, D ++ m.vars.flatMap (fun v => labD L v.label v.pos) = D1 := ⟨_, rfl⟩
      have HO2 : Hid (Ck1 w1 lo b md al nl L (.slice ad nd cd) D1 ad' n' c' wr) := Lib.hid (by
        have := hs.out
        rw [List.take_of_length_le (by rw [HV.out.2]; exact Nat.le_refl _), hD1] at this
        exact this)
      have hb4 := hs.out.keep H.out.2.2.2 (by have := H.out.1.lt; omega) (fun j hj => by have := (H.out.1.ge hj).2; omega)
      have q4 : wr.cell? ⟨w.heap.size, 4, none⟩ = some (.slice aP nP cP) := cellsN hb4 4 _ rfl
      have HD1 : Hid (D1.length ≤ nd + 100000 ∧ D ++ m.vars.flatMap (fun v => labD L v.label v.pos) = D1) := Lib.hid ⟨by
        have h2 := flat_len (fun v : Vrb => labD L v.label v.pos) 1 m.vars (fun v _ => labD_len L _ _)
        rw [← hD1, List.length_append]
        have := HK.out.2.2.2.2
        have := HV.out.2
        omega, hD1⟩
      clear hs hb4 hD1 q3
      go_wp2_with fail
      go_loopw [27] (fun i wr => ∃ k ad' n' c', k ≤ nP ∧ i = .int .i64 (k : Nat) ∧ Hid (Ck1 w1 lo b md al nl L (.slice ad nd cd) (D1 ++ (m.procs.take k).flatMap (prcD L)) ad' n' c' wr)) (fun i _ => nP - (RowKit.intOf i).toNat)
      case atStart => exact ⟨0, ad', n', c', Nat.zero_le _, rfl, Lib.hid (by simpa using HO2.out)⟩
      case round =>
        obtain ⟨k, ad', n', c', hk, rfl, hs⟩ := hrel
        by_cases hlt : k < nP
        · have hk2 : (k : Int) < (nP : Int) := by omega
          have hk0 : (0 : Int) ≤ (k : Int) := by omega
          have hgr := hs.out.low (Grow.trans H.out.2.1 H.out.2.2.1) HK.out.2.1 HK.out.2.2.1
          obtain ⟨a, i0, cs, rfl, hi, ⟨vQ, vU, aB, nB, cB, rfl, hq, hu⟩, _, hc⟩ := (HP.out.1.imp hgr (fun _ _ h => h)).at hlt
          obtain ⟨aQ, cQ, rfl⟩ := hq.shape
          obtain ⟨aU, cU, rfl⟩ := hu.shape
          obtain ⟨nQ, hnQ⟩ : ∃ n, i0.params.length = n := ⟨_, rfl⟩
          rw [hnQ] at hq hc
          have hpi := HP.out.2.2 i0 (List.mem_of_getElem? hi)
          have hq100 : nQ ≤ 100000 := by rw [← hnQ]; exact hpi
          have e0 : wr.cell? (a.add (k * 8)) = some (.string (tx i0.name)) := hc.1 _ rfl
          have e1 : wr.cell? ⟨(a.add (k * 8)).block, (a.add (k * 8)).off + 1, none⟩ = some (.slice aQ nQ cQ) := hc.2 1 _ (by decide) rfl
          have e2 : wr.cell? ⟨(a.add (k * 8)).block, (a.add (k * 8)).off + 2, none⟩ = some (.bool i0.has) := hc.2 2 _ (by decide) rfl
          have e3 : wr.cell? ⟨(a.add (k * 8)).block, (a.add (k * 8)).off + 3, none⟩ = some (.string (tx i0.result)) := hc.2 3 _ (by decide) rfl
          have e4 : wr.cell? ⟨(a.add (k * 8)).block, (a.add (k * 8)).off + 4, none⟩ = some (.string (tx i0.pc)) := hc.2 4 _ (by decide) rfl
          have e5 : wr.cell? ⟨(a.add (k * 8)).block, (a.add (k * 8)).off + 5, none⟩ = some (.slice aU i0.uses.length cU) := hc.2 5 _ (by decide) rfl
          have e6 : wr.cell? ⟨(a.add (k * 8)).block, (a.add (k * 8)).off + 6, none⟩ = some (.slice aB nB cB) := hc.2 6 _ (by decide) rfl
          have e7 : wr.cell? ⟨(a.add (k * 8)).block, (a.add (k * 8)).off + 7, none⟩ = some (.int .i64 (i0.pos : Int)) := hc.2 7 _ (by decide) rfl
          obtain ⟨W, hW⟩ : ∃ W, wr.alloc (.cells #[.string (tx i0.name), .slice aQ nQ cQ, .bool i0.has, .string (tx i0.result), .string (tx i0.pc), .slice aU i0.uses.length cU, .slice aB nB cB, .int .i64 (i0.pos : Int)] 66) = W := ⟨_, rfl⟩
          have hgW : Grow wr W := by rw [← hW]; exact (Below.refl _ wr).alloc (Nat.le_refl _) _
          have hnew : W.heap[wr.heap.size]? = some (.cells #[.string (tx i0.name), .slice aQ nQ cQ, .bool i0.has, .string (tx i0.result), .string (tx i0.pc), .slice aU i0.uses.length cU, .slice aB nB cB, .int .i64 (i0.pos : Int)] 66) := by rw [← hW]; exact heap_alloc_new _ _
          have f1 : W.cell? ⟨wr.heap.size, 1, none⟩ = some (.slice aQ nQ cQ) := cellsN hnew 1 _ rfl
          have HOn : Hid (Ck1 W lo b md al nl L (.slice ad' n' c') (D1 ++ (m.procs.take k).flatMap (prcD L)) ad' n' c' W) := Lib.hid ⟨hs.out.ck.later hgW, Chg.refl _ _, .inl rfl⟩
          have hln : n' ≤ nd + 100000 + k * 100002 := by
            have h1 := hs.out.ck.own.1
            have h2 := flat_len (prcD L) 100002 (m.procs.take k) (fun p hp => prcD_len L p (HP.out.2.2 p (List.mem_of_mem_take hp)))
            rw [List.length_append] at h1
            have h5 : (m.procs.take k).length ≤ k := by rw [List.length_take]; omega
            have h6 := Nat.mul_le_mul_right 100002 h5
            have := HD1.out.1
            omega
          have HQ := Lib.hid (And.intro hq hnQ)
          have HG := Lib.hid (And.intro hgr (And.intro hgW hnew))
          have HSZ : Hid (n' ≤ nd + 100000 + k * 100002 ∧ (∀ j, (Value.slice ad' n' c').ownBlock = some j → w0.heap.size ≤ j) ∧ n' = (D1 ++ (m.procs.take k).flatMap (prcD L)).length ∧ b < wr.heap.size ∧ ∀ j, (Value.slice ad' n' c').ownBlock = some j → j < wr.heap.size) := Lib.hid ⟨hln, fun j hj => by have := (hs.out.ck.ge hj).1; have := HK.out.2.1; omega, hs.out.ck.own.1, hs.out.ck.lt, fun j hj => (hs.out.ck.ge hj).2⟩
          have HS0 := Lib.hid (And.intro hs.out hi)
          obtain ⟨D2, hD2⟩ : ∃ D2, D1 ++ (m.procs.take k).flatMap (prcD L) = D2 := ⟨_, rfl⟩
          rw [hD2] at HOn HSZ HS0
          have HD2 := Lib.hid hD2
          clear hs hi hc hq hu hpi hgW hnew hgr hln hnQ hD2
          go_upto_region 10 with fail
          clear hW e0 e1 e2 e3 e4 e5 e6 e7
          obtain ⟨PB, hPB⟩ : ∃ x, wr.heap.size = x := ⟨_, rfl⟩
          rw [hPB] at HG HSZ f1 ⊢
          have HPB := Lib.hid hPB
          clear hPB
          go_wp2_with fail
          go_loopw [34] (fun i wr => ∃ k2 ad2 n2 c2, k2 ≤ nQ ∧ i = .int .i64 (k2 : Nat) ∧ Hid (Ck1 W lo b md al nl L (.slice ad' n' c') (D2 ++ (i0.params.take k2).flatMap fun q => labD L q.label q.pos) ad2 n2 c2 wr)) (fun i _ => nQ - (RowKit.intOf i).toNat)
          case atStart => exact ⟨0, ad', n', c', Nat.zero_le _, rfl, Lib.hid (by simpa using HOn.out)⟩
          case round =>
            obtain ⟨k2, ad2, n2, c2, hk', rfl, hs⟩ := hrel
            have hln : n2 ≤ n' + k2 := by
              have h1 := hs.out.ck.own.1
              have h2 := flat_len (fun q : Par => labD L q.label q.pos) 1 (i0.params.take k2) (fun v _ => labD_len L _ _)
              rw [List.length_append] at h1
              rw [List.length_take] at h2
              have := HSZ.out.2.2.1
              omega
            have hbig : n2 + 3 ≤ 100000000000 := by have := HK.out.1; have := HSZ.out.1; have := Nat.mul_le_mul_right 100002 (show k ≤ 100000 by omega); omega
            by_cases hlt' : k2 < nQ
            · have hk2' : (k2 : Int) < (nQ : Int) := by omega
              have hk0' : (0 : Int) ≤ (k2 : Int) := by omega
              have hgr := hs.out.low (Grow.trans HG.out.1 HG.out.2.1) HK.out.2.1 HSZ.out.2.1
              obtain ⟨aq, i, cs, rfl, hi, rfl, _, hc⟩ := (HQ.out.1.imp hgr (fun _ _ h => h)).at hlt'
              have d0 : wr.cell? (aq.add (k2 * 3)) = some (.string (tx i.name)) := hc.1 _ rfl
              have d1 : wr.cell? ⟨(aq.add (k2 * 3)).block, (aq.add (k2 * 3)).off + 1, none⟩ = some (.string (tx i.label)) := hc.2 1 _ (by decide) rfl
              have d2 : wr.cell? ⟨(aq.add (k2 * 3)).block, (aq.add (k2 * 3)).off + 2, none⟩ = some (.int .i64 (i.pos : Int)) := hc.2 2 _ (by decide) rfl
              obtain ⟨W2, hW2⟩ : ∃ W2, wr.alloc (.cells #[.string (tx i.name), .string (tx i.label), .int .i64 (i.pos : Int)] 90) = W2 := ⟨_, rfl⟩
              have hgW : Grow wr W2 := by rw [← hW2]; exact (Below.refl _ wr).alloc (Nat.le_refl _) _
              have hnew : W2.heap[wr.heap.size]? = some (.cells #[.string (tx i.name), .string (tx i.label), .int .i64 (i.pos : Int)] 90) := by rw [← hW2]; exact heap_alloc_new _ _
              have g0 : W2.cell? ⟨wr.heap.size, 0, none⟩ = some (.string (tx i.name)) := cellsN hnew 0 _ rfl
              have g1 : W2.cell? ⟨wr.heap.size, 1, none⟩ = some (.string (tx i.label)) := cellsN hnew 1 _ rfl
              have g2 : W2.cell? ⟨wr.heap.size, 2, none⟩ = some (.int .i64 (i.pos : Int)) := cellsN hnew 2 _ rfl
              have P := label_walk lo b md al nl L _ n2 _ i.label i.pos W2 (hs.out.ck.later hgW) (Lib.hid (by omega)) hl HR.out
              have HS : Hid (∀ e w2, CkTold W2 lo b md al nl L (.slice ad2 n2 c2) ((D2 ++ (i0.params.take k2).flatMap fun q => labD L q.label q.pos) ++ labD L i.label i.pos) e w2 → e = .returned (.tuple #[]) ∧ ∃ ad3 n3 c3, Ck1 W lo b md al nl L (.slice ad' n' c') (D2 ++ (i0.params.take (k2 + 1)).flatMap fun q => labD L q.label q.pos) ad3 n3 c3 w2) := Lib.hid fun e w2 ht => by
                have := hs.out.next hgW ht
                rw [flat_next hi, ← List.append_assoc]
                exact this
              clear hs hi hc hgW hnew hgr hln hbig
              go_wp2_with (go_at_call 108; refine P.mono ?_; rintro e w2 ht; obtain ⟨rfl, ad3, n3, c3, h2⟩ := HS.out e w2 ht; have H2 := Lib.hid h2; clear ht h2)
              exact ⟨⟨k2 + 1, ad3, n3, c3, by omega, by go_num, H2⟩, by simp [RowKit.intOf]; omega⟩
            · have hk2' : ¬ (k2 : Int) < (nQ : Int) := by omega
              obtain rfl : nQ = k2 := by omega
              have hs2 : Ck1 W lo b md al nl L (.slice ad' n' c') (D2 ++ i0.params.flatMap fun q => labD L q.label q.pos) ad2 n2 c2 wr := by
                have := hs.out
                rw [List.take_of_length_le (by rw [HQ.out.2]; exact Nat.le_refl _)] at this
                exact this
              have KB : Hid (∀ D3 ad3 n3 c3 (w' : World), Ck1 W lo b md al nl L (.slice ad' n' c') D3 ad3 n3 c3 w' → w'.heap[PB]? = some (.cells #[.string (tx i0.name), .slice aQ nQ cQ, .bool i0.has, .string (tx i0.result), .string (tx i0.pc), .slice aU i0.uses.length cU, .slice aB nB cB, .int .i64 (i0.pos : Int)] 66)) := Lib.hid fun D3 ad3 n3 c3 w' hh => hh.keep HG.out.2.2 (by have := HSZ.out.2.2.2.1; omega) (fun j hj => by have := HSZ.out.2.2.2.2 j hj; omega)
              have FIN : Hid (∀ ad3 n3 c3 (w' : World), Ck1 W lo b md al nl L (.slice ad' n' c') (D2 ++ prcD L i0) ad3 n3 c3 w' → ∃ ad4 n4 c4, Ck1 w1 lo b md al nl L (.slice ad nd cd) (D1 ++ (m.procs.take (k + 1)).flatMap (prcD L)) ad4 n4 c4 w') := Lib.hid fun ad3 n3 c3 w' hh => by
                have h1 := hh.told HG.out.2.1
                rw [flat_next HS0.out.2, ← List.append_assoc, HD2.out]
                exact (HS0.out.1.next (Grow.refl _) h1).2
              have hkb := KB.out _ _ _ _ _ hs2
              have f2 : wr.cell? ⟨PB, 2, none⟩ = some (.bool i0.has) := cellsN hkb 2 _ rfl
              cases hh : i0.has with
              | true =>
                rw [hh] at f2
                have f3 : wr.cell? ⟨PB, 3, none⟩ = some (.string (tx i0.result)) := cellsN hkb 3 _ rfl
                have f7 : wr.cell? ⟨PB, 7, none⟩ = some (.int .i64 (i0.pos : Int)) := cellsN hkb 7 _ rfl
                have P := label_walk lo b md al nl L _ n2 _ i0.result i0.pos wr hs2.ck (Lib.hid (by omega)) hl HR.out
                have HS : Hid (∀ e w2, CkTold wr lo b md al nl L (.slice ad2 n2 c2) ((D2 ++ i0.params.flatMap fun q => labD L q.label q.pos) ++ labD L i0.result i0.pos) e w2 → e = .returned (.tuple #[]) ∧ ∃ ad3 n3 c3, Ck1 W lo b md al nl L (.slice ad' n' c') ((D2 ++ i0.params.flatMap fun q => labD L q.label q.pos) ++ labD L i0.result i0.pos) ad3 n3 c3 w2) := Lib.hid fun e w2 ht => hs2.next (Grow.refl _) ht
                have HL : Hid (n2 = (D2 ++ i0.params.flatMap fun q => labD L q.label q.pos).length) := Lib.hid hs2.ck.own.1
                have HH := Lib.hid hh
                clear hs hs2 hkb hh hln
                go_upto_region 16 with (go_at_call 108; refine P.mono ?_; rintro e w2 ht; obtain ⟨rfl, ad3, n3, c3, h2⟩ := HS.out e w2 ht; have H2 := Lib.hid h2; clear ht h2)
                have hkb := KB.out _ _ _ _ _ H2.out
                have j4 : w2.cell? ⟨PB, 4, none⟩ = some (.string (tx i0.pc)) := cellsN hkb 4 _ rfl
                have j7 : w2.cell? ⟨PB, 7, none⟩ = some (.int .i64 (i0.pos : Int)) := cellsN hkb 7 _ rfl
                have hn3 : n3 + 1 ≤ 100000000000 := by
                  have h1 := H2.out.ck.own.1
                  rw [List.length_append, ← HL.out] at h1
                  have := labD_len L i0.result i0.pos
                  omega
                have P2 := label_walk lo b md al nl L _ n3 _ i0.pc i0.pos w2 H2.out.ck (Lib.hid hn3) hl HR.out
                have HS2 : Hid (∀ e w4, CkTold w2 lo b md al nl L (.slice ad3 n3 c3) (((D2 ++ i0.params.flatMap fun q => labD L q.label q.pos) ++ labD L i0.result i0.pos) ++ labD L i0.pc i0.pos) e w4 → e = .returned (.tuple #[]) ∧ ∃ ad4 n4 c4, Ck1 w1 lo b md al nl L (.slice ad nd cd) (D1 ++ (m.procs.take (k + 1)).flatMap (prcD L)) ad4 n4 c4 w4) := Lib.hid fun e w4 ht => by
                  obtain ⟨rfl, x1, x2, x3, x4⟩ := H2.out.next (Grow.refl _) ht
                  refine ⟨rfl, FIN.out x1 x2 x3 w4 ?_⟩
                  unfold prcD
                  rw [if_pos HH.out]
                  rw [List.append_assoc, List.append_assoc] at x4
                  exact x4
                clear hkb P
                go_wp2_with (go_at_call 108; refine P2.mono ?_; rintro e w4 ht; obtain ⟨rfl, ad4, n4, c4, h2⟩ := HS2.out e w4 ht; have H4 := Lib.hid h2; clear ht h2)
                exact ⟨⟨k + 1, ad4, n4, c4, by omega, by go_num, H4⟩, by simp [RowKit.intOf]; omega⟩
              | false =>
                rw [hh] at f2
                have f4 : wr.cell? ⟨PB, 4, none⟩ = some (.string (tx i0.pc)) := cellsN hkb 4 _ rfl
                have f7 : wr.cell? ⟨PB, 7, none⟩ = some (.int .i64 (i0.pos : Int)) := cellsN hkb 7 _ rfl
                have P := label_walk lo b md al nl L _ n2 _ i0.pc i0.pos wr hs2.ck (Lib.hid (by omega)) hl HR.out
                have HS2 : Hid (∀ e w4, CkTold wr lo b md al nl L (.slice ad2 n2 c2) ((D2 ++ i0.params.flatMap fun q => labD L q.label q.pos) ++ labD L i0.pc i0.pos) e w4 → e = .returned (.tuple #[]) ∧ ∃ ad4 n4 c4, Ck1 w1 lo b md al nl L (.slice ad nd cd) (D1 ++ (m.procs.take (k + 1)).flatMap (prcD L)) ad4 n4 c4 w4) := Lib.hid fun e w4 ht => by
                  obtain ⟨rfl, x1, x2, x3, x4⟩ := hs2.next (Grow.refl _) ht
                  refine ⟨rfl, FIN.out x1 x2 x3 w4 ?_⟩
                  unfold prcD
                  rw [if_neg (by rw [hh]; decide), List.nil_append, ← List.append_assoc]
                  exact x4
                clear hs hs2 hkb hh hln
                go_wp2_with (go_at_call 108; refine P.mono ?_; rintro e w4 ht; obtain ⟨rfl, ad4, n4, c4, h2⟩ := HS2.out e w4 ht; have H4 := Lib.hid h2; clear ht h2)
                exact ⟨⟨k + 1, ad4, n4, c4, by omega, by go_num, H4⟩, by simp [RowKit.intOf]; omega⟩
        · have hk2 : ¬ (k : Int) < (nP : Int) := by omega
          obtain rfl : nP = k := by omega
          have HE : Hid (CkTold w lo b md al nl L (.slice ad nd cd) (D ++ knoD L m) (.returned (.tuple #[])) wr) := Lib.hid (by
            have := hs.out.told H.out.2.2.1
            rw [List.take_of_length_le (by rw [HP.out.2.1]; exact Nat.le_refl _), ← HD1.out.2, List.append_assoc] at this
            exact this)
          clear hs
          go_wp2_with fail
          go_end0
          exact HE.out

end Go.Proofs.YtlgfijjkbomejaaGreatDoor
