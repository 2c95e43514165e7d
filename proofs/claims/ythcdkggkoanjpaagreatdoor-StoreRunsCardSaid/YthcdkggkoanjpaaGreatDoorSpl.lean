/- A snapshot on a disk as the document says: what Save and Load make of it. Plain facts. Numbers and types by name. -/
import Derived.Test.YthcdkggkoanjpaaGreatDoorRl
import Derived.Test.YthcdkggkoanjpaaGreatDoorCd
import Derived.Test.YthcdkggkoanjpaaGreatDoorRd
namespace Go.Proofs.YthcdkggkoanjpaaGreatDoor
open Go.RowKit Go.Maps Go.Sort Go.WideMaps
theorem resE_at {keep : List Int} {fs : List Ent} {j : Nat} {x : Ent} (hx : fs[j]? = some x) : (resE keep fs j)[j]? = some x := by
  unfold resE
  rw [List.getElem?_mapIdx, hx]
  simp
theorem resE_set {keep : List Int} {fs : List Ent} {j : Nat} {x : Ent} (hx : fs[j]? = some x) : (resE keep fs j).set j (survE (keep.getD j 0) x) = resE keep fs (j + 1) := by
  have hlt := (List.getElem?_eq_some_iff.1 hx).1
  apply List.ext_getElem?
  intro i
  unfold resE
  by_cases hij : i = j
  · subst hij
    rw [List.getElem?_set_self (by simpa using hlt), List.getElem?_mapIdx, hx]
    simp
  · rw [List.getElem?_set_ne (fun e => hij e.symm), List.getElem?_mapIdx, List.getElem?_mapIdx]
    cases fs[i]? with
    | none => rfl
    | some y =>
      simp only [Option.map_some, Option.some.injEq]
      by_cases h1 : i < j
      · rw [if_pos h1, if_pos (by omega)]
      · rw [if_neg h1, if_neg (by omega)]
theorem resE_zero (keep : List Int) (fs : List Ent) : resE keep fs 0 = fs := by
  unfold resE
  apply List.ext_getElem?
  intro i
  rw [List.getElem?_mapIdx]
  cases fs[i]? <;> simp
theorem resE_length (keep : List Int) (fs : List Ent) (j : Nat) : (resE keep fs j).length = fs.length := by simp [resE]
theorem RD.rounded {w w5 : World} {r n c g j q c5 : Nat} {M : MD} {F G : List Nat} {s : RS} {xs : List Value} {x : Ent} {ao5 : Option Addr} (hR : RefC w r s) (hP : RP w s M G) (hv : s.fv = .slice (some ⟨g, 0, none⟩) n c) (hn : n = M.fs.length) (hF : F = [r, g]) (hne : g ≠ r) (hGd : ∀ q ∈ G, q ∉ F ∧ q < w.heap.size)
    (hown : w.ownsRow 0 104 3 (.slice (some ⟨g, 0, none⟩) n c) n xs) (hT : TellR w G xs M.fs) (hx : M.fs[j]? = some x) (hfit : Fit (M.fs.set j (x.1, x.2.1.take q, q))) (hq : q ≤ x.2.1.length) (hb5 : Below w.heap.size w w5) (hown5 : Bs w5 w.heap.size (.slice ao5 q c5) q (x.2.1.take q)) :
    RefC (w5.setCell ⟨g, j * 3 + 1, none⟩ (.slice ao5 q c5)) r s ∧ (w5.setCell ⟨g, j * 3 + 1, none⟩ (.slice ao5 q c5)).cell? ⟨g, j * 3 + 1, none⟩ = some (.slice ao5 q c5) ∧
    (w5.setCell ⟨g, j * 3 + 1, none⟩ (.slice ao5 q c5)).cell? ⟨g, j * 3 + 2, none⟩ = some (.int .i64 (x.2.2 : Nat)) ∧ (w5.setCell ⟨g, j * 3 + 1, none⟩ (.slice ao5 q c5)).frozen? ⟨g, j * 3 + 2, none⟩ = false ∧
    ∃ G2, RD (((w5.setCell ⟨g, j * 3 + 1, none⟩ (.slice ao5 q c5)).drew).setCell ⟨g, j * 3 + 2, none⟩ (.int .i64 (q : Nat))) r { M with fs := M.fs.set j (x.1, x.2.1.take q, q) } F G2 ∧ (∀ k ∈ G2, k ∈ G ∨ w.heap.size ≤ k) ∧ Turn [g] w (((w5.setCell ⟨g, j * 3 + 1, none⟩ (.slice ao5 q c5)).drew).setCell ⟨g, j * 3 + 2, none⟩ (.int .i64 (q : Nat))) := by
  subst hn hF
  have t15 := turn_below hb5
  have hgw := (hown.lt g rfl).2
  have hR5 := hR.turn t15 (by simp)
  have hown15 := owns_turn hown t15 (by simp)
  have hxl : xs.length = M.fs.length * 3 := hT.1
  have hjl := (List.getElem?_eq_some_iff.1 hx).1
  obtain ⟨ab, cb, q1, q2, q3, _⟩ := hT.2 j x hx
  have hgG : g ∉ G := fun hm => (hGd g hm).1 (by simp)
  have tS : Turn [g] w5 (w5.setCell ⟨g, j * 3 + 1, none⟩ (.slice ao5 q c5)) := (Turn.refl [g] w5).set (.inl (by simp)) _ _
  have hR6 := hR5.turn tS (by simpa using fun e => hne e.symm)
  have hown6 := own_setD hown15 (j * 3 + 1) (.slice ao5 q c5) (by omega)
  have q26 : (xs.set (j * 3 + 1) (.slice ao5 q c5))[j * 3 + 1]? = some (.slice ao5 q c5) := List.getElem?_set_self (by omega)
  have q36 : (xs.set (j * 3 + 1) (.slice ao5 q c5))[j * 3 + 2]? = some (.int .i64 (x.2.2 : Nat)) := by rw [List.getElem?_set_ne (by omega)]; exact q3
  obtain ⟨_, e, d2, _⟩ := row_cell hown6 (by rw [List.length_set]; exact hxl) q26
  cases e
  obtain ⟨_, e, d3, g3⟩ := row_cell hown6 (by rw [List.length_set]; exact hxl) q36
  cases e
  have hql : q = (x.2.1.take q).length := by rw [List.length_take]; omega
  have hob : ∀ a, ao5 = some a → (Value.slice ao5 q c5).ownBlock = some a.block := by
    intro a hao
    rcases hown5.2.2 with ⟨e2, _⟩ | ⟨g5, _, _, e2, _⟩
    · simp only [Value.slice.injEq] at e2; rw [hao] at e2; cases e2.1
    · simp only [Value.slice.injEq] at e2; rw [e2.1] at hao ⊢; cases hao; rfl
  have hr6 : Reads (w5.setCell ⟨g, j * 3 + 1, none⟩ (.slice ao5 q c5)) (.slice ao5 (x.2.1.take q).length c5) (bv (x.2.1.take q)) := by
    rw [← hql]
    refine hown5.reads.turn tS fun hne a n c e => ?_
    simp only [Value.slice.injEq] at e
    have := (hown5.2.lt a.block (hob a e.1)).1
    simp only [List.mem_singleton]
    omega
  obtain ⟨H, hH1, hH2⟩ : ∃ H : List Nat, (∀ a, ao5 = some a → a.block ∈ H) ∧ ∀ b ∈ H, w.heap.size ≤ b ∧ b < w5.heap.size := by
    cases hao : ao5 with
    | none => exact ⟨[], fun a e => (by cases e), by simp⟩
    | some a =>
      refine ⟨[a.block], fun a' e => (by cases e; simp), fun b hb => ?_⟩
      simp only [List.mem_singleton] at hb
      subst hb
      exact hown5.2.lt a.block (hob a hao)
  have hgH : g ∉ G ++ H := fun hm => by
    rcases List.mem_append.1 hm with hm | hm
    · exact hgG hm
    · have := (hH2 g hm).1; omega
  have hT5 := (hT.turn t15 (by simp)).more (G' := G ++ H) fun k hk => List.mem_append_left _ hk
  have hT6 := hT5.bytes tS hgH hx (x.2.1.take q) ao5 c5 hr6 (fun _ a e => List.mem_append_right _ (hH1 a e))
  rw [← hql] at hT6
  have tD : Turn [g] (w5.setCell ⟨g, j * 3 + 1, none⟩ (.slice ao5 q c5)) (((w5.setCell ⟨g, j * 3 + 1, none⟩ (.slice ao5 q c5)).drew).setCell ⟨g, j * 3 + 2, none⟩ (.int .i64 (q : Nat))) := (Turn.refl [g] _).drew.set (.inl (by simp)) _ _
  have hxs : (M.fs.set j (x.1, x.2.1.take q, x.2.2))[j]? = some (x.1, x.2.1.take q, x.2.2) := List.getElem?_set_self hjl
  have hT7 := hT6.synced tD hgH hxs q
  simp only [List.set_set] at hT7
  have hown7 := own_setD (show (w5.setCell ⟨g, j * 3 + 1, none⟩ (.slice ao5 q c5)).drew.ownsRow 0 104 3 _ _ _ from hown6) (j * 3 + 2) (.int .i64 (q : Nat)) (by rw [List.length_set]; omega)
  have tAll := ((t15.mono (G := [g]) (by simp)).trans tS).trans tD
  have e5s := tS.size
  have e6s := tD.size
  obtain ⟨F2, G2, hD2, h2F, h2G, t2⟩ := RD.filed (k := j) (y := (x.1, x.2.1.take q, q)) (G' := G ++ H) hR hP hv rfl rfl hne hgw hGd hfit tAll hown7 hT7 (fun k hk => List.mem_append_left _ hk) (fun k hk => (List.mem_append.1 hk).imp id fun h => (hH2 k h).1) (fun k hk => (List.mem_append.1 hk).elim (fun h => Nat.lt_of_lt_of_le (hGd k h).2 tAll.size) fun h => by have := (hH2 k h).2; omega)
  have hF2 : F2 = [r, g] := by
    obtain ⟨_, s2, ao2, c2, xs2, hR2, hP2, hv2, hown2, hTe2, hF2, _⟩ := hD2
    have hR7 := (hR6.turn tD (by simpa using fun e => hne e.symm)).c5
    rw [hR2.c5] at hR7
    simp only [Option.some.injEq] at hR7
    rw [hR7, hv] at hv2
    simp only [Value.slice.injEq] at hv2
    rw [hF2, ← hv2.1]
    rfl
  refine ⟨hR6, d2, d3, g3, G2, by rw [← hF2]; exact hD2, fun k hk => ?_, tAll⟩
  rcases h2G k hk with h | h | h
  · exact .inl h
  · cases h
  · exact .inr h
end Go.Proofs.YthcdkggkoanjpaaGreatDoor
namespace Go.Proofs.YthcdkggkoanjpaaGreatDoor
open Go.RowKit Go.Maps Go.Sort Go.WideMaps
def Stays (X : Nat → Prop) (w w' : World) : Prop := Below 0 w w' ∧ ∀ q, X q → w'.heap[q]? = w.heap[q]?
theorem Stays.below {n : Nat} {a b : World} (h : Stays (· < n) a b) : Below n a b := ⟨h.1.os, h.1.tape, h.1.output, h.1.size, fun q hq => h.2 q hq⟩
theorem Stays.of_turn {X : Nat → Prop} {F : List Nat} {w w' : World} (t : Turn F w w') (hX : ∀ q, X q → q < w.heap.size ∧ q ∉ F) : Stays X w w' :=
  ⟨t.below (Nat.zero_le _) (fun k _ => Nat.zero_le _), fun q hq => t.block q (hX q hq).1 (hX q hq).2⟩
def Both (X : Nat → Prop) (w : World) (base b r : Nat) (M1 M2 : MD) : Prop :=
  (∀ q, X q → q < w.heap.size) ∧ ∃ Fd Fr G, CD w base b M1 Fd ∧ RD w r M2 Fr G ∧ (∀ q ∈ Fd, q ∉ Fr ∧ q ∉ G ∧ ¬ X q) ∧ ∀ q ∈ Fr, ¬ X q
theorem Both.new {X : Nat → Prop} {w w' : World} {base b r : Nat} {M1 M2 : MD} (h : Both X w base b r M1 M2) (t : Turn [] w w') : Both X w' base b r M1 M2 := by
  obtain ⟨h0, Fd, Fr, G, h1, h2, h3, h4⟩ := h
  exact ⟨fun q hq => Nat.lt_of_lt_of_le (h0 q hq) t.size, Fd, Fr, G, h1.new t, h2.new t, h3, h4⟩
theorem Both.code {X : Nat → Prop} {w w' : World} {base b r : Nat} {M2 M' : MD} {Fd Fr G : List Nat} (h0 : ∀ q, X q → q < w.heap.size) (h2 : RD w r M2 Fr G) (h3 : ∀ q ∈ Fd, q ∉ Fr ∧ q ∉ G ∧ ¬ X q) (h4 : ∀ q ∈ Fr, ¬ X q)
    (hn : Next w w' base b M' Fd) : Both X w' base b r M' M2 ∧ Stays X w w' := by
  obtain ⟨F', k1, k2, t⟩ := hn
  refine ⟨⟨fun q hq => Nat.lt_of_lt_of_le (h0 q hq) t.size, F', Fr, G, k1, h2.keep t (fun k hk hm => (h3 k hm).1 hk) (fun k hk hm => (h3 k hm).2.1 hk), fun q hq => ?_, h4⟩, Stays.of_turn t fun q hq => ⟨h0 q hq, fun hm => (h3 q hm).2.2 hq⟩⟩
  rcases k2 q hq with e | e
  · exact h3 q e
  · exact ⟨fun hm => by have := h2.lt.1 q hm; omega, fun hm => by have := (h2.lt.2 q hm).2; omega, fun hm => by have := h0 q hm; omega⟩
theorem Both.refd {X : Nat → Prop} {w w' : World} {base b r : Nat} {M1 M2 M' : MD} {Fd Fr G P : List Nat} (h0 : ∀ q, X q → q < w.heap.size) (h1 : CD w base b M1 Fd) (h2 : RD w r M2 Fr G) (h3 : ∀ q ∈ Fd, q ∉ Fr ∧ q ∉ G ∧ ¬ X q) (h4 : ∀ q ∈ Fr, ¬ X q)
    (hP : ∀ q ∈ P, X q) (hn : RNext w w' r M' Fr G P) : Both X w' base b r M1 M' ∧ Stays X w w' := by
  obtain ⟨F', G', k1, k2, k3, t⟩ := hn
  refine ⟨⟨fun q hq => Nat.lt_of_lt_of_le (h0 q hq) t.size, Fd, F', G', h1.keep t (fun k hk hm => (h3 k hk).1 hm), k1, fun q hq => ⟨fun hm => ?_, fun hm => ?_, (h3 q hq).2.2⟩, fun q hq => ?_⟩, Stays.of_turn t fun q hq => ⟨h0 q hq, fun hm => h4 q hm hq⟩⟩
  · rcases k2 q hm with e | e
    · exact (h3 q hq).1 e
    · have := (h1.lt q hq).2; omega
  · rcases k3 q hm with e | e | e
    · exact (h3 q hq).2.1 e
    · exact (h3 q hq).2.2 (hP q e)
    · have := (h1.lt q hq).2; omega
  · rcases k2 q hq with e | e
    · exact h4 q e
    · intro hm; have := h0 q hm; omega
structure Hold (K : Nat) (M : MD) (j : Nat) : Prop where
  n : M.n ≤ j
  tot : tot M.fs ≤ j * K
  len : M.fs.length ≤ j
  fail : M.fail.length ≤ 200
  keep : M.keep.length ≤ 200
  cap : M.cap ≤ 9223372036854775807
theorem held_step {K : Nat} {M : MD} {j : Nat} (h : Hold K M j) (M' : MD) (hn : M'.n ≤ M.n + 1) (ht : tot M'.fs ≤ tot M.fs + K) (hl : M'.fs.length ≤ M.fs.length + 1) (hf : M'.fail = M.fail) (hk : M'.keep = M.keep) (hc : M'.cap = M.cap) : Hold K M' (j + 1) := by
  have h1 := h.n
  have h2 := h.tot
  have h3 := h.len
  refine ⟨by omega, ?_, by omega, by rw [hf]; exact h.fail, by rw [hk]; exact h.keep, by rw [hc]; exact h.cap⟩
  rw [Nat.succ_mul]
  exact Nat.le_trans ht (Nat.add_le_add_right h2 K)
theorem held_more {K : Nat} {M : MD} {j : Nat} (h : Hold K M j) : Hold K M (j + 1) :=
  held_step h M (by omega) (Nat.le_add_right _ _) (Nat.le_add_right _ _) rfl rfl rfl
def Adds (op : Opn) (c : Nat) : Prop := ∀ cap fs, Rising fs → tot (op cap fs).2 ≤ tot fs + c ∧ (op cap fs).2.length ≤ fs.length + 1
theorem held_act {K : Nat} {M : MD} {j : Nat} (h : Hold K M j) {op : Opn} (ho : Adds op K) (hr : Rising M.fs) : Hold K (M.act op).2 (j + 1) := by
  have h1 := ho M.cap M.fs hr
  unfold MD.act
  split
  · exact held_more h
  · split
    · refine held_step h _ (Int.le_refl _) ?_ ?_ rfl rfl rfl
      · show tot (if M.dn = true then (op M.cap M.fs).2 else M.fs) ≤ _
        split
        · exact h1.1
        · exact Nat.le_add_right _ _
      · show (if M.dn = true then (op M.cap M.fs).2 else M.fs).length ≤ _
        split
        · exact h1.2
        · exact Nat.le_add_right _ _
    · split
      · exact held_step h _ (Int.le_refl _) (Nat.le_add_right _ _) (Nat.le_add_right _ _) rfl rfl rfl
      · exact held_step h _ (Int.le_refl _) h1.1 h1.2 rfl rfl rfl
theorem tot_insE (x : Ent) (fs : List Ent) : tot (insE x fs) = x.2.1.length + tot fs := by rw [tot_perm (insE_perm x fs), tot_cons]
theorem tot_woE (k : List UInt8) (fs : List Ent) : tot (woE k fs) ≤ tot fs := by
  induction fs with
  | nil => exact Nat.le_refl _
  | cons x l ih =>
    unfold woE at *
    rw [List.filter_cons]
    split
    · rw [tot_cons, tot_cons]; omega
    · rw [tot_cons]; omega
theorem len_woE (k : List UInt8) (fs : List Ent) : (woE k fs).length ≤ fs.length := List.length_filter_le _ _
theorem tot_woE_mem {k : List UInt8} {fs : List Ent} {x : Ent} (h : fs.find? (isName k) = some x) : x.2.1.length + tot (woE k fs) ≤ tot fs := by
  induction fs with
  | nil => cases h
  | cons y l ih =>
    rw [List.find?_cons] at h
    cases hy : isName k y with
    | true =>
      rw [hy] at h
      cases h
      have := tot_woE k l
      unfold woE at *
      rw [List.filter_cons_of_neg (by simp [hy]), tot_cons]
      omega
    | false =>
      rw [hy] at h
      have := ih h
      unfold woE at *
      rw [List.filter_cons_of_pos (by simp [hy]), tot_cons, tot_cons]
      omega
theorem tot_updE {k : List UInt8} {u : Ent → Ent} {c : Nat} (hu : ∀ x, (u x).2.1.length ≤ x.2.1.length + c) {fs : List Ent} (hn : (fs.map (·.1)).Nodup) : tot (updE k u fs) ≤ tot fs + c := by
  induction fs with
  | nil => exact Nat.zero_le _
  | cons y l ih =>
    rw [List.map_cons, List.nodup_cons] at hn
    unfold updE at *
    rw [List.map_cons, tot_cons, tot_cons]
    have h1 := ih hn.2
    by_cases hy : isName k y = true
    · rw [if_pos hy]
      have h2 : l.map (fun x => if isName k x = true then u x else x) = l := by
        conv => rhs; rw [← List.map_id l]
        apply List.map_congr_left
        intro x hx
        rw [if_neg]
        · rfl
        · intro e
          exact hn.1 (List.mem_map.2 ⟨x, hx, (isName_iff.1 e).trans (isName_iff.1 hy).symm⟩)
      rw [h2]
      have := hu y
      omega
    · rw [if_neg hy]
      omega
theorem len_updE (k : List UInt8) (u : Ent → Ent) (fs : List Ent) : (updE k u fs).length = fs.length := by simp [updE]
theorem adds_create (c : Nat) (k : List UInt8) : Adds (opCreate k) c := by
  intro cap fs hr
  unfold opCreate
  split
  · exact ⟨Nat.le_add_right _ _, Nat.le_add_right _ _⟩
  · split
    · exact ⟨Nat.le_add_right _ _, Nat.le_add_right _ _⟩
    · simp only [tot_insE, insE_length, List.length_nil]; omega
theorem adds_append (c : Nat) (k l : List UInt8) (hl : l.length ≤ c) : Adds (opAppend k l) c := by
  intro cap fs hr
  unfold opAppend
  split
  · exact ⟨Nat.le_add_right _ _, Nat.le_add_right _ _⟩
  · split
    · exact ⟨Nat.le_add_right _ _, Nat.le_add_right _ _⟩
    · refine ⟨tot_updE (fun x => ?_) hr.nodup, by show (updE _ _ _).length ≤ _; rw [len_updE]; omega⟩
      simp only [List.length_append]; omega
theorem adds_sync (c : Nat) (k : List UInt8) : Adds (opSync k) c := by
  intro cap fs hr
  unfold opSync
  split
  · exact ⟨Nat.le_add_right _ _, Nat.le_add_right _ _⟩
  · exact ⟨tot_updE (u := fun x => (x.1, x.2.1, x.2.1.length)) (fun x => Nat.le_add_right _ _) hr.nodup, by show (updE _ _ _).length ≤ _; rw [len_updE]; omega⟩
theorem adds_cut (c : Nat) (k : List UInt8) (n : Int) : Adds (opCut k n) c := by
  intro cap fs hr
  unfold opCut
  split
  · exact ⟨Nat.le_add_right _ _, Nat.le_add_right _ _⟩
  · split
    · exact ⟨Nat.le_add_right _ _, Nat.le_add_right _ _⟩
    · exact ⟨tot_updE (fun x => by simp only [List.length_take]; omega) hr.nodup, by show (updE _ _ _).length ≤ _; rw [len_updE]; omega⟩
theorem adds_rename (c : Nat) (k j : List UInt8) : Adds (opRename k j) c := by
  intro cap fs hr
  unfold opRename
  split
  · exact ⟨Nat.le_add_right _ _, Nat.le_add_right _ _⟩
  · rename_i x hx
    split
    · exact ⟨Nat.le_add_right _ _, Nat.le_add_right _ _⟩
    · split
      · exact ⟨Nat.le_add_right _ _, Nat.le_add_right _ _⟩
      · have h1 := tot_woE j (woE k fs)
        have h2 := tot_woE_mem hx
        have h3 := len_woE j (woE k fs)
        have h4 := len_woE k fs
        simp only [tot_insE, insE_length]
        omega
theorem adds_remove (c : Nat) (k : List UInt8) : Adds (opRemove k) c := by
  intro cap fs hr
  unfold opRemove
  split
  · exact ⟨Nat.le_add_right _ _, Nat.le_add_right _ _⟩
  · have h1 := tot_woE k fs
    have h2 := len_woE k fs
    exact ⟨Nat.le_trans h1 (Nat.le_add_right _ _), Nat.le_trans h2 (Nat.le_add_right _ _)⟩
theorem held_restart {K : Nat} {M : MD} {j : Nat} (h : Hold K M j) {cap cr : Int} {dn : Bool} {zs ks : List Int} (hc : cap ≤ 9223372036854775807) (hz : zs.length ≤ 200) (hk : ks.length ≤ 200) : Hold K (M.restart cap cr dn zs ks) (j + 1) := by
  have h1 := tot_res M.keep M.fs M.fs.length
  have h3 := h.len
  refine ⟨by show (0 : Int) ≤ _; omega, ?_, by show (resE M.keep M.fs M.fs.length).length ≤ _; rw [resE_length]; omega, hz, hk, hc⟩
  rw [Nat.succ_mul]
  exact Nat.le_trans (Nat.le_trans h1 h.tot) (Nat.le_add_right _ _)
end Go.Proofs.YthcdkggkoanjpaaGreatDoor
namespace Go.Proofs.YthcdkggkoanjpaaGreatDoor
open Go.RowKit Go.Lib
structure Well (K : Nat) (M : MD) (j : Nat) : Prop where
  held : Hold K M j
  up : Rising M.fs
def Keeps (op : Opn) : Prop := ∀ cap fs, Rising fs → Rising (op cap fs).2
theorem keeps_create (k : List UInt8) : Keeps (opCreate k) := by
  intro cap fs h
  unfold opCreate
  split
  · exact h
  · split
    · exact h
    · rename_i hn
      exact insE_rising h (by simpa using hn)
theorem keeps_append (k l : List UInt8) : Keeps (opAppend k l) := by
  intro cap fs h
  unfold opAppend
  split
  · exact h
  · split
    · exact h
    · exact updE_rising (u := fun x => (x.1, x.2.1 ++ l, x.2.2)) (fun _ => rfl) h
theorem keeps_sync (k : List UInt8) : Keeps (opSync k) := by
  intro cap fs h
  unfold opSync
  split
  · exact h
  · exact updE_rising (u := fun x => (x.1, x.2.1, x.2.1.length)) (fun _ => rfl) h
theorem keeps_cut (k : List UInt8) (n : Int) : Keeps (opCut k n) := by
  intro cap fs h
  unfold opCut
  split
  · exact h
  · split
    · exact h
    · exact updE_rising (u := fun x => (x.1, x.2.1.take n.toNat, min x.2.2 n.toNat)) (fun _ => rfl) h
theorem well_act {K : Nat} {M : MD} {j : Nat} (h : Well K M j) {op : Opn} (ho : Adds op K) (hk : Keeps op) : Well K (M.act op).2 (j + 1) := by
  refine ⟨held_act h.held ho h.up, ?_⟩
  unfold MD.act
  split
  · exact h.up
  · split
    · show Rising (if M.dn = true then (op M.cap M.fs).2 else M.fs)
      split
      · exact hk _ _ h.up
      · exact h.up
    · split
      · exact h.up
      · exact hk _ _ h.up
theorem well_more {K : Nat} {M : MD} {i j : Nat} (h : Well K M i) (hj : i ≤ j) : Well K M j := by
  obtain ⟨d, rfl⟩ := Nat.exists_eq_add_of_le hj
  clear hj
  induction d with
  | zero => exact h
  | succ d ih => exact ⟨held_more ih.held, ih.up⟩
structure RoomW (K J : Nat) : Prop where
  all : J * K ≤ 890000000
  calls : J ≤ 100000
theorem well_totW {K J : Nat} (hR : RoomW K J) {M : MD} {j : Nat} (h : Well K M j) (hj : j ≤ J) : tot M.fs ≤ 890000000 :=
  Nat.le_trans h.held.tot (Nat.le_trans (Nat.mul_le_mul_right K hj) hR.all)
theorem well_limW {K J : Nat} (hR : RoomW K J) {M : MD} {j : Nat} (h : Well K M j) (hj : j ≤ J) : Lim M := by
  have h1 := h.held.n
  have h3 := h.held.len
  have h4 := h.held.fail
  have h5 := h.held.keep
  have h6 := hR.calls
  have h7 := well_totW hR h hj
  exact ⟨by omega, ⟨by omega, by omega⟩, by omega, by omega⟩
theorem mread_none {M : MD} {k : List UInt8} (h : (M.read k).2 = 3) : (M.read k).1 = [] := by
  unfold MD.read at *
  split
  · rfl
  · rename_i hd
    rw [if_neg hd] at h
    split
    · rfl
    · rename_i x hx
      rw [hx] at h
      cases h
theorem well_create {K : Nat} {M : MD} {j : Nat} (h : Well K M j) (k : List UInt8) : Well K (M.act (opCreate k)).2 (j + 1) := well_act h (adds_create K k) (keeps_create k)
theorem well_append {K : Nat} {M : MD} {j : Nat} (h : Well K M j) (k l : List UInt8) (hl : l.length ≤ K) : Well K (M.act (opAppend k l)).2 (j + 1) := well_act h (adds_append K k l hl) (keeps_append k l)
theorem well_sync {K : Nat} {M : MD} {j : Nat} (h : Well K M j) (k : List UInt8) : Well K (M.act (opSync k)).2 (j + 1) := well_act h (adds_sync K k) (keeps_sync k)
theorem well_cut {K : Nat} {M : MD} {j : Nat} (h : Well K M j) (k : List UInt8) (n : Int) : Well K (M.act (opCut k n)).2 (j + 1) := well_act h (adds_cut K k n) (keeps_cut k n)
theorem keeps_remove (k : List UInt8) : Keeps (opRemove k) := by
  intro cap fs h
  unfold opRemove
  split
  · exact h
  · exact woE_rising h
theorem keeps_rename (k j : List UInt8) : Keeps (opRename k j) := by
  intro cap fs h
  unfold opRename
  split
  · exact h
  · split
    · exact h
    · split
      · exact h
      · refine insE_rising (woE_rising (woE_rising h)) ?_
        show (woE j (woE k fs)).any (isName j) = false
        rw [woE_any, if_pos rfl]
end Go.Proofs.YthcdkggkoanjpaaGreatDoor
namespace Go.Proofs.YthcdkggkoanjpaaGreatDoor
open Go.RowKit Go.Lib
def tmpK : List UInt8 := [116, 109, 112]
def snapK : List UInt8 := [115, 110, 97, 112]
def tmpS : ByteArray := ⟨#[116, 109, 112]⟩
def snapS : ByteArray := ⟨#[115, 110, 97, 112]⟩
theorem tmpS_list : tmpS.data.toList = tmpK := rfl
theorem snapS_list : snapS.data.toList = snapK := rfl
theorem tmp_snap : tmpK ≠ snapK := by decide
def runOps : List Opn → MD → Int × MD
  | [], M => (0, M)
  | op :: l, M => if (M.act op).1 = 0 then runOps l (M.act op).2 else M.act op
def saveOps (fs : List Ent) (x : List UInt8) : List Opn :=
  (if fs.any (isName tmpK) = true then [opRemove tmpK] else []) ++ [opCreate tmpK, opAppend tmpK x, opSync tmpK, opRename tmpK snapK]
def saveP (M : MD) (x : List UInt8) : Int × MD := runOps (saveOps M.fs x) M
def loadP (M : MD) : List UInt8 × Int := M.read snapK
theorem runOps_one (op : Opn) (l : List Opn) (M : MD) : runOps (op :: l) M = if (M.act op).1 = 0 then runOps l (M.act op).2 else M.act op := rfl
def Sure (fs : List Ent) (k b : List UInt8) : Prop := fs.find? (isName k) = some (k, b, b.length)
theorem find_iff {fs : List Ent} (h : Rising fs) (k : List UInt8) (x : Ent) : fs.find? (isName k) = some x ↔ x ∈ fs ∧ x.1 = k := find_key k fs h.nodup x
theorem sure_iff {fs : List Ent} (h : Rising fs) {k b : List UInt8} : Sure fs k b ↔ (k, b, b.length) ∈ fs := by
  unfold Sure
  rw [find_iff h]
  exact ⟨fun h => h.1, fun h => ⟨h, rfl⟩⟩
theorem find_insE {fs : List Ent} (h : Rising fs) {x : Ent} (hx : fs.any (isName x.1) = false) {k : List UInt8} (hk : x.1 ≠ k) : (insE x fs).find? (isName k) = fs.find? (isName k) := by
  apply Option.ext
  intro y
  rw [find_iff (insE_rising h hx), find_iff h, (insE_perm x fs).mem_iff]
  constructor
  · rintro ⟨hm, hy⟩
    rcases List.mem_cons.1 hm with rfl | hm
    · exact absurd hy hk
    · exact ⟨hm, hy⟩
  · rintro ⟨hm, hy⟩
    exact ⟨List.mem_cons_of_mem _ hm, hy⟩
theorem find_insE_self {fs : List Ent} (h : Rising fs) {x : Ent} (hx : fs.any (isName x.1) = false) : (insE x fs).find? (isName x.1) = some x := by
  rw [find_iff (insE_rising h hx), (insE_perm x fs).mem_iff]
  exact ⟨by simp, rfl⟩
theorem find_woE {fs : List Ent} (h : Rising fs) {j k : List UInt8} (hk : j ≠ k) : (woE j fs).find? (isName k) = fs.find? (isName k) := by
  apply Option.ext
  intro y
  rw [find_iff (woE_rising h), find_iff h]
  unfold woE
  rw [List.mem_filter]
  constructor
  · rintro ⟨⟨hm, _⟩, hy⟩
    exact ⟨hm, hy⟩
  · rintro ⟨hm, hy⟩
    refine ⟨⟨hm, ?_⟩, hy⟩
    have : ¬ isName j y = true := fun e => hk ((isName_iff.1 e).symm.trans hy)
    simpa using this
theorem find_upd_self {k : List UInt8} {u : Ent → Ent} (hu : ∀ x, (u x).1 = x.1) (fs : List Ent) : (updE k u fs).find? (isName k) = (fs.find? (isName k)).map u := by
  induction fs with
  | nil => rfl
  | cons y l ih =>
    have e : updE k u (y :: l) = (if isName k y = true then u y else y) :: updE k u l := by simp [updE]
    rw [e]
    by_cases hy : isName k y = true
    · have hu' : isName k (u y) = true := by rw [isName_iff, hu]; exact isName_iff.1 hy
      rw [if_pos hy, List.find?_cons_of_pos hu', List.find?_cons_of_pos hy]
      rfl
    · rw [if_neg hy, List.find?_cons_of_neg hy, List.find?_cons_of_neg hy, ih]
theorem find_upd_ne {j k : List UInt8} {u : Ent → Ent} (hu : ∀ x, (u x).1 = x.1) (hk : j ≠ k) (fs : List Ent) : (updE j u fs).find? (isName k) = fs.find? (isName k) := by
  induction fs with
  | nil => rfl
  | cons y l ih =>
    have e : updE j u (y :: l) = (if isName j y = true then u y else y) :: updE j u l := by simp [updE]
    rw [e]
    by_cases hy : isName j y = true
    · have h1 : ¬ isName k y = true := fun h => hk ((isName_iff.1 hy).symm.trans (isName_iff.1 h))
      have h2 : ¬ isName k (u y) = true := fun h => hk ((isName_iff.1 hy).symm.trans ((hu y).symm.trans (isName_iff.1 h)))
      rw [if_pos hy, List.find?_cons_of_neg h2, List.find?_cons_of_neg h1, ih]
    · rw [if_neg hy]
      by_cases h1 : isName k y = true
      · rw [List.find?_cons_of_pos h1, List.find?_cons_of_pos h1]
      · rw [List.find?_cons_of_neg h1, List.find?_cons_of_neg h1, ih]
theorem act_ways {M : MD} (hd : M.dw = false) (op : Opn) :
    ((M.act op).1 = 7 ∧ (M.act op).2.dw = true ∧ ((M.act op).2.fs = M.fs ∨ (M.act op).2.fs = (op M.cap M.fs).2)) ∨
    ((M.act op).1 = 6 ∧ (M.act op).2.dw = false ∧ (M.act op).2.fs = M.fs) ∨
    ((M.act op).1 = (op M.cap M.fs).1 ∧ (M.act op).2.dw = false ∧ (M.act op).2.fs = (op M.cap M.fs).2) := by
  unfold MD.act
  rw [if_neg (by simp [hd])]
  by_cases h1 : M.n + 1 = M.cr
  · rw [if_pos h1]
    refine .inl ⟨rfl, rfl, ?_⟩
    show (if M.dn = true then _ else _) = _ ∨ (if M.dn = true then _ else _) = _
    split
    · exact .inr rfl
    · exact .inl rfl
  · rw [if_neg h1]
    by_cases h2 : M.fail.contains (M.n + 1) = true
    · rw [if_pos h2]
      exact .inr (.inl ⟨rfl, hd, rfl⟩)
    · rw [if_neg h2]
      exact .inr (.inr ⟨rfl, hd, rfl⟩)
theorem act_down {M : MD} (hd : M.dw = true) (op : Opn) : M.act op = (7, M) := by
  unfold MD.act
  rw [if_pos hd]
def Spares (op : Opn) : Prop := ∀ cap fs, Rising fs → (op cap fs).2.find? (isName snapK) = fs.find? (isName snapK)
theorem spares_remove : Spares (opRemove tmpK) := fun cap fs h => by
  unfold opRemove
  split
  · rfl
  · exact find_woE h tmp_snap
theorem spares_create : Spares (opCreate tmpK) := fun cap fs h => by
  unfold opCreate
  rw [if_neg (by decide)]
  split
  · rfl
  · rename_i hn
    exact find_insE h (by simpa using hn) tmp_snap
theorem spares_append (x : List UInt8) : Spares (opAppend tmpK x) := fun cap fs h => by
  unfold opAppend
  split
  · rfl
  · split
    · rfl
    · exact find_upd_ne (u := fun y => (y.1, y.2.1 ++ x, y.2.2)) (fun _ => rfl) tmp_snap fs
theorem spares_sync : Spares (opSync tmpK) := fun cap fs h => by
  unfold opSync
  split
  · rfl
  · exact find_upd_ne (u := fun y => (y.1, y.2.1, y.2.1.length)) (fun _ => rfl) tmp_snap fs
theorem act_rising {M : MD} {op : Opn} (hk : Keeps op) (h : Rising M.fs) : Rising (M.act op).2.fs := by
  cases hd : M.dw with
  | true => rw [act_down hd]; exact h
  | false =>
    rcases act_ways hd op with ⟨_, _, h1 | h1⟩ | ⟨_, _, h1⟩ | ⟨_, _, h1⟩ <;> rw [h1]
    · exact h
    · exact hk _ _ h
    · exact h
    · exact hk _ _ h
theorem act_spares {M : MD} {op : Opn} (hs : Spares op) (h : Rising M.fs) : (M.act op).2.fs.find? (isName snapK) = M.fs.find? (isName snapK) := by
  cases hd : M.dw with
  | true => rw [act_down hd]
  | false =>
    rcases act_ways hd op with ⟨_, _, h1 | h1⟩ | ⟨_, _, h1⟩ | ⟨_, _, h1⟩ <;> rw [h1]
    · exact hs _ _ h
    · exact hs _ _ h
def Full (M : MD) (x : List UInt8) : Prop := M.dw = false ∧ M.fs.find? (isName tmpK) = some (tmpK, x, x.length)
theorem act_ok {M : MD} {op : Opn} (h0 : (M.act op).1 = 0) : M.dw = false ∧ (M.act op).2.dw = false ∧ (op M.cap M.fs).1 = 0 ∧ (M.act op).2.fs = (op M.cap M.fs).2 := by
  cases hd : M.dw with
  | true => rw [act_down hd] at h0; cases h0
  | false =>
    rcases act_ways hd op with ⟨h1, _⟩ | ⟨h1, _⟩ | ⟨h1, h2, h3⟩
    · rw [h0] at h1; cases h1
    · rw [h0] at h1; cases h1
    · exact ⟨rfl, h2, h1.symm.trans h0, h3⟩
theorem rename_ways {M : MD} {x : List UInt8} (h : Full M x) (hr : Rising M.fs) :
    (((M.act (opRename tmpK snapK)).2.fs.find? (isName snapK) = M.fs.find? (isName snapK)) ∨ Sure (M.act (opRename tmpK snapK)).2.fs snapK x) ∧ ((M.act (opRename tmpK snapK)).1 = 0 → Sure (M.act (opRename tmpK snapK)).2.fs snapK x) := by
  obtain ⟨hd, hf⟩ := h
  have key : (opRename tmpK snapK M.cap M.fs).1 = 0 ∧ Sure (opRename tmpK snapK M.cap M.fs).2 snapK x := by
    unfold opRename
    rw [hf]
    simp only
    rw [if_neg (by decide), if_neg (by decide)]
    exact ⟨rfl, find_insE_self (x := (snapK, x, x.length)) (woE_rising (woE_rising hr)) (by rw [woE_any, if_pos rfl])⟩
  rcases act_ways hd (opRename tmpK snapK) with ⟨h1, _, h2 | h2⟩ | ⟨h1, _, h2⟩ | ⟨h1, _, h2⟩
  · exact ⟨.inl (by rw [h2]), fun h0 => by rw [h1] at h0; cases h0⟩
  · exact ⟨.inr (by rw [h2]; exact key.2), fun h0 => by rw [h1] at h0; cases h0⟩
  · exact ⟨.inl (by rw [h2]), fun h0 => by rw [h1] at h0; cases h0⟩
  · exact ⟨.inr (by rw [h2]; exact key.2), fun _ => by rw [h2]; exact key.2⟩
theorem full_of {M : MD} {x : List UInt8} (hr : Rising M.fs) (h1 : (M.act (opCreate tmpK)).1 = 0) (h2 : ((M.act (opCreate tmpK)).2.act (opAppend tmpK x)).1 = 0) (h3 : (((M.act (opCreate tmpK)).2.act (opAppend tmpK x)).2.act (opSync tmpK)).1 = 0) :
    Full (((M.act (opCreate tmpK)).2.act (opAppend tmpK x)).2.act (opSync tmpK)).2 x := by
  obtain ⟨_, _, a3, a4⟩ := act_ok h1
  obtain ⟨_, _, b3, b4⟩ := act_ok h2
  obtain ⟨_, c2, c3, c4⟩ := act_ok h3
  have e1 : (M.act (opCreate tmpK)).2.fs.find? (isName tmpK) = some (tmpK, [], 0) := by
    rw [a4]
    unfold opCreate at a3 ⊢
    rw [if_neg (by decide)] at a3 ⊢
    by_cases hn : M.fs.any (isName tmpK) = true
    · rw [if_pos hn] at a3; cases a3
    · rw [if_neg hn]
      exact find_insE_self (x := (tmpK, [], 0)) hr (by simpa using hn)
  have e2 : ((M.act (opCreate tmpK)).2.act (opAppend tmpK x)).2.fs.find? (isName tmpK) = some (tmpK, x, 0) := by
    rw [b4]
    unfold opAppend at b3 ⊢
    rw [e1] at b3 ⊢
    simp only at b3 ⊢
    split at b3
    · cases b3
    · rename_i hc
      rw [if_neg hc]
      simp only
      rw [find_upd_self (u := fun y => (y.1, y.2.1 ++ x, y.2.2)) (fun _ => rfl), e1]
      simp
  refine ⟨c2, ?_⟩
  rw [c4]
  unfold opSync
  rw [e2]
  simp only
  rw [find_upd_self (u := fun y => (y.1, y.2.1, y.2.1.length)) (fun _ => rfl), e2]
  rfl
theorem save_keeps {M : MD} {x : List UInt8} (hr : Rising M.fs) :
    ((saveP M x).2.fs.find? (isName snapK) = M.fs.find? (isName snapK) ∨ Sure (saveP M x).2.fs snapK x) ∧ ((saveP M x).1 = 0 → Sure (saveP M x).2.fs snapK x) ∧ Rising (saveP M x).2.fs := by
  have tail : ∀ N : MD, Rising N.fs →
      ((runOps [opCreate tmpK, opAppend tmpK x, opSync tmpK, opRename tmpK snapK] N).2.fs.find? (isName snapK) = N.fs.find? (isName snapK) ∨ Sure (runOps [opCreate tmpK, opAppend tmpK x, opSync tmpK, opRename tmpK snapK] N).2.fs snapK x) ∧
      ((runOps [opCreate tmpK, opAppend tmpK x, opSync tmpK, opRename tmpK snapK] N).1 = 0 → Sure (runOps [opCreate tmpK, opAppend tmpK x, opSync tmpK, opRename tmpK snapK] N).2.fs snapK x) ∧ Rising (runOps [opCreate tmpK, opAppend tmpK x, opSync tmpK, opRename tmpK snapK] N).2.fs := by
    intro N hN
    have r1 := act_rising (keeps_create tmpK) hN
    have s1 := act_spares spares_create hN
    rw [runOps_one]
    by_cases h1 : (N.act (opCreate tmpK)).1 = 0
    case neg => rw [if_neg h1]; exact ⟨.inl s1, fun h => absurd h h1, r1⟩
    rw [if_pos h1, runOps_one]
    have r2 := act_rising (keeps_append tmpK x) r1
    have s2 := act_spares (spares_append x) r1
    by_cases h2 : ((N.act (opCreate tmpK)).2.act (opAppend tmpK x)).1 = 0
    case neg => rw [if_neg h2]; exact ⟨.inl (s2.trans s1), fun h => absurd h h2, r2⟩
    rw [if_pos h2, runOps_one]
    have r3 := act_rising (keeps_sync tmpK) r2
    have s3 := act_spares spares_sync r2
    by_cases h3 : (((N.act (opCreate tmpK)).2.act (opAppend tmpK x)).2.act (opSync tmpK)).1 = 0
    case neg => rw [if_neg h3]; exact ⟨.inl (s3.trans (s2.trans s1)), fun h => absurd h h3, r3⟩
    rw [if_pos h3, runOps_one]
    have hfull := full_of hN h1 h2 h3
    have hw := rename_ways hfull r3
    have r4 := act_rising (keeps_rename tmpK snapK) r3
    have e : (if ((((N.act (opCreate tmpK)).2.act (opAppend tmpK x)).2.act (opSync tmpK)).2.act (opRename tmpK snapK)).1 = 0 then runOps [] ((((N.act (opCreate tmpK)).2.act (opAppend tmpK x)).2.act (opSync tmpK)).2.act (opRename tmpK snapK)).2 else (((N.act (opCreate tmpK)).2.act (opAppend tmpK x)).2.act (opSync tmpK)).2.act (opRename tmpK snapK)) = (((N.act (opCreate tmpK)).2.act (opAppend tmpK x)).2.act (opSync tmpK)).2.act (opRename tmpK snapK) := by
      split
      · rename_i h; exact Prod.ext h.symm rfl
      · rfl
    rw [e]
    exact ⟨hw.1.imp (fun h => h.trans (s3.trans (s2.trans s1))) id, hw.2, r4⟩
  unfold saveP saveOps
  by_cases ht : M.fs.any (isName tmpK) = true
  · rw [if_pos ht, List.singleton_append, runOps_one]
    have r0 := act_rising (keeps_remove tmpK) hr
    have s0 := act_spares spares_remove hr
    by_cases h0 : (M.act (opRemove tmpK)).1 = 0
    · rw [if_pos h0]
      obtain ⟨t1, t2, t3⟩ := tail _ r0
      exact ⟨t1.imp (fun h => h.trans s0) id, t2, t3⟩
    · rw [if_neg h0]
      exact ⟨.inl s0, fun h => absurd h h0, r0⟩
  · rw [if_neg ht, List.nil_append]
    exact tail M hr
theorem sure_restart {M : MD} {k b : List UInt8} (hr : Rising M.fs) (h : Sure M.fs k b) (cap cr : Int) (dn : Bool) (fl kp : List Int) : Sure (M.restart cap cr dn fl kp).fs k b ∧ Rising (M.restart cap cr dn fl kp).fs := by
  have hrs : Rising (resE M.keep M.fs M.fs.length) := rising_of_names (by rw [resE_names]; exact hr.names)
  refine ⟨?_, hrs⟩
  show Sure (resE M.keep M.fs M.fs.length) k b
  rw [sure_iff hrs]
  rw [sure_iff hr] at h
  obtain ⟨i, hi, he⟩ := List.getElem_of_mem h
  refine List.mem_iff_getElem.2 ⟨i, by unfold resE; simpa using hi, ?_⟩
  unfold resE
  rw [List.getElem_mapIdx, if_pos hi, he]
  unfold survE
  simp
end Go.Proofs.YthcdkggkoanjpaaGreatDoor
