/- A log on a disk as the document says: what each call makes of both. Plain facts. Numbers and types by name. -/
import Derived.Test.YthcdkggkoanjpaaGreatDoorFrm
import Derived.Test.YthcdkggkoanjpaaGreatDoorBri
import Derived.Test.YthcdkggkoanjpaaGreatDoorWel
/- The code's Encode. Numbers and types by name. -/
namespace Go.Proofs.YthcdkggkoanjpaaGreatDoor
open Go.RowKit Go.Lib
theorem batch_bad (v : Value) (n : Nat) (L : List Opm) (w : World) (hr : Opr w v n L) (hok : okOps L = false) :
    Calls Tryz.prog 97 #[v] w fun e w' => e = .returned (.tuple #[.slice none 0 0, .int .i64 1]) ∧ Below w.heap.size w w' := by
  have R := right_any _ n L w hr
  rw [hok] at R
  clear hr hok
  go_enter Tryz.func97, Tryz.ntmps97
  go_wp2_with fail
  refine R.mono ?_
  rintro e w1 ⟨rfl, hb⟩
  clear R
  go_wp2_with fail
  go_ret2
  exact ⟨rfl, hb⟩
set_option maxHeartbeats 2000000 in
theorem batch_any (v : Value) (n : Nat) (L : List Opm) (w : World) (hr : Opr w v n L) (ht : Tab w) (hok : okOps L = true) (hb : bulkO L ≤ 5000) :
    Calls Tryz.prog 97 #[v] w fun e w' => ∃ ao m c, e = .returned (.tuple #[.slice ao m c, .int .i64 0]) ∧ Bs w' w.heap.size (.slice ao m c) m (frms (recs L)) ∧ Below w.heap.size w w' := by
  obtain ⟨ao, c, rfl⟩ := hr.shape
  have HR := Lib.hid hr
  have HT := Lib.hid ht
  have HB := Lib.hid hb
  have hn5 : n ≤ 5000 := by have := bulkO_length L; have := hr.1; omega
  have R := right_any _ n L w hr
  rw [hok] at R
  clear hr hok hb ht
  go_enter Tryz.func97, Tryz.ntmps97
  go_wp2_with fail
  refine R.mono ?_
  rintro e w1 ⟨rfl, hb1⟩
  clear R
  have HB1 := Lib.hid hb1
  clear hb1
  go_wp2_with fail
  go_loopw [4, 16] (fun xv i wr => ∃ (k r c : Nat) (ao : Option Addr), k ≤ n ∧ i = .int .i64 k ∧ xv = .slice ao r c ∧ Hid (r ≤ 110000 ∧ Bs wr w.heap.size (.slice ao r c) r (frms ((L.take k).map pay)) ∧ Below w.heap.size w wr))
    (fun _ i _ => n - (RowKit.intOf i).toNat)
  case atStart => exact ⟨0, 0, 0, none, Nat.zero_le _, rfl, rfl, Lib.hid ⟨by omega, ⟨rfl, World.ownsRow_nil _ _ _ _⟩, HB1.out⟩⟩
  case round =>
    obtain ⟨k, r, c, ao2, hk, rfl, rfl, hrel⟩ := hrel
    have HA := Lib.hid hrel.out.2.1
    have HBE := Lib.hid hrel.out.2.2
    have hrb := hrel.out.1
    clear hrel
    by_cases hlt : k < n
    · have h3 : (k : Int) < (n : Int) := by omega
      obtain ⟨a, o, rfl, ho, q0, q1, q2, s1, s2⟩ := (HR.out.later HBE.out).at hlt
      have HO := Lib.hid ho
      have hob := bulkO_mem (List.mem_of_getElem? ho)
      have HOB : Hid (1 + o.key.size + o.val.size ≤ 5000) := Lib.hid (by have := HB.out; omega)
      have G := fun w => operation_any o w HOB.out
      have HG : Hid (Grow wr (wr.alloc (.cells #[.bool o.del, .string o.key, .string o.val] 65))) := Lib.hid ((Below.refl _ wr).alloc (Nat.le_refl _) _)
      clear ho s1 s2 hob
      go_wp2_with fail
      refine (G _).mono ?_
      rintro e w2 ⟨a2, m2, c2, rfl, h2, hb2⟩
      have hm2 : m2 ≤ 6000 := by have := h2.1; have := pay_length o; have := HOB.out; omega
      have HX := Lib.hid (And.intro h2 (Grow.trans HG.out hb2))
      clear h2 hb2 G HG q0 q1 q2
      go_wp2_with fail
      refine (frame_any _ m2 (pay o) w2 HX.out.1.reads HX.out.1.1 (by omega)).mono ?_
      rintro e w3 ⟨a3, c3, rfl, h3', hb3⟩
      obtain ⟨s, hs⟩ : ∃ s, s = m2 + 8 := ⟨_, rfl⟩
      rw [← hs] at h3' ⊢
      have hs6 : s ≤ 6008 := by omega
      have HY := Lib.hid (And.intro h3' (Grow.trans HX.out.2 hb3))
      have HAY := Lib.hid (HA.out.below HY.out.2 (Nat.le_refl _))
      have HBY := Lib.hid (HBE.out.trans (HY.out.2.mono HBE.out.size))
      have F1 : Hid (r + s ≤ maxLen) := Lib.hid (by unfold maxLen; omega)
      have F2 : Hid ((r + s) * 1 ≤ 140737488355328) := Lib.hid (by omega)
      clear h3' hb3 hs HX
      go_wp2_with (at_builtin; refine wpList_append_bytes rfl (.tmp 29) (.tmp 30) rfl w.heap.size _ r _ rfl HAY.out (.slice a3 s c3) s (frm (pay o)) HY.out.1.1 rfl HY.out.1.reads (r + s) rfl F1 F2 HBY.out.size ?_; intro ao8 c8 w8 hown8 hb8)
      have hN : frms ((L.take k).map pay) ++ frm (pay o) = frms ((L.take (k + 1)).map pay) := (pays_take HO.out).symm
      rw [hN] at hown8
      refine ⟨⟨k + 1, r + s, c8, ao8, by omega, by simp, rfl, Lib.hid ⟨?_, hown8, HBY.out.trans hb8⟩⟩, by simp only [RowKit.intOf]; omega⟩
      have h1 := pays_bulk (L.take (k + 1))
      have h2 := bulkO_take L (k + 1)
      have h4 := HB.out
      have h5 := hown8.1
      omega
    · have h3 : ¬ (k : Int) < (n : Int) := by omega
      obtain rfl : k = n := by omega
      have hkL : L.take k = L := List.take_of_length_le (by have := HR.out.1; omega)
      have hlen : Hid (L.length = k) := Lib.hid HR.out.1.symm
      rw [hkL] at HA
      have C := count_any _ k L wr (HR.out.later HBE.out) (HT.out.later HBE.out)
      clear hkL
      go_wp2_with fail
      refine C.mono ?_
      rintro e w2 ⟨rfl, hb2⟩
      have HX2 : Hid (Grow wr w2) := Lib.hid hb2
      clear hb2 C
      go_wp2_with fail
      have hfl := fin_length (n := k) (by omega)
      have hsz : (txt (digs k)).size ≤ 18 := by unfold fin at hfl; rw [List.length_cons, enc1_length] at hfl; omega
      refine (payload_any 99 _ 1 [txt (digs k)] _ (Texts.lit w2 [txt (digs k)] (0, 0) 1 rfl (by unfold maxLen; omega) (by intro s hs; simp only [List.mem_singleton] at hs; subst hs; unfold maxLen; omega)) (by simp only [bulk, List.map_cons, List.map_nil, List.sum_cons, List.sum_nil]; omega)).mono ?_
      rintro e w3 ⟨a3, m3, c3, rfl, h3', hb3⟩
      have hm3 : m3 ≤ 18 := by have := h3'.1; unfold fin at hfl; omega
      have HX3 := Lib.hid (And.intro h3' (Grow.trans HX2.out (Grow.trans ((Below.refl _ w2).alloc (Nat.le_refl _) (.cells (sv [txt (digs k)]).toArray 9)) hb3)))
      clear h3' hb3 HX2 hfl hsz
      go_wp2_with fail
      have hfe : (99 : UInt8) :: enc [txt (digs k)] = fin k := rfl
      rw [hfe] at HX3
      refine (frame_any _ m3 (fin k) w3 HX3.out.1.reads HX3.out.1.1 (by omega)).mono ?_
      rintro e w4 ⟨a4, c4, rfl, h4', hb4⟩
      obtain ⟨s, hs⟩ : ∃ s, s = m3 + 8 := ⟨_, rfl⟩
      rw [← hs] at h4' ⊢
      have hs6 : s ≤ 6008 := by omega
      have HY := Lib.hid (And.intro h4' (Grow.trans HX3.out.2 hb4))
      have HAY := Lib.hid (HA.out.below HY.out.2 (Nat.le_refl _))
      have HBY := Lib.hid (HBE.out.trans (HY.out.2.mono HBE.out.size))
      have F1 : Hid (r + s ≤ maxLen) := Lib.hid (by unfold maxLen; omega)
      have F2 : Hid ((r + s) * 1 ≤ 140737488355328) := Lib.hid (by omega)
      clear h4' hb4 hs HX3 hfe
      go_wp2_with (at_builtin; refine wpList_append_bytes rfl (.tmp 41) (.tmp 42) rfl w.heap.size _ r _ rfl HAY.out (.slice a4 s c4) s (frm (fin k)) HY.out.1.1 rfl HY.out.1.reads (r + s) rfl F1 F2 HBY.out.size ?_; intro ao8 c8 w8 hown8 hb8)
      go_ret2
      have hN : frms (L.map pay) ++ frm (fin k) = frms (recs L) := by rw [recs, frms_snoc, hlen.out]
      rw [hN] at hown8
      exact ⟨ao8, r + s, c8, by simp, hown8, HBY.out.trans hb8⟩
end Go.Proofs.YthcdkggkoanjpaaGreatDoor

/- Records of batches: plain facts; SameOps in a later world. Numbers and types by name. -/
namespace Go.Proofs.YthcdkggkoanjpaaGreatDoor
open Go.RowKit Go.Lib
theorem bulk_scans' {b : List UInt8} {l : List (List UInt8)} {n : Nat} (h : Scans b l n) : 8 * l.length ≤ n := by
  induction h with
  | stop _ => simp
  | more _ _ ih => rw [List.length_cons]; omega
theorem recs_short {L : List Opm} (hb : bulkO L ≤ 5000) : ∀ p ∈ recs L, p.length ≤ 6000 := by
  intro p hp
  have hn := bulkO_length L
  rcases List.mem_append.1 hp with hp | hp
  · obtain ⟨o, ho, rfl⟩ := List.mem_map.1 hp
    have := pay_length o
    have := bulkO_mem ho
    omega
  · rw [List.mem_singleton.1 hp]
    have := fin_length (n := L.length) (by omega)
    omega
theorem recs_frms {L : List Opm} (hb : bulkO L ≤ 5000) : (frms (recs L)).length ≤ 110000 := by
  have h1 := pays_bulk L
  have hn := bulkO_length L
  have h2 := fin_length (n := L.length) (by omega)
  unfold recs
  rw [frms_snoc, List.length_append, frm_length]
  omega
theorem recs_pos (L : List Opm) : 8 ≤ (frms (recs L)).length := by
  unfold recs
  rw [frms_snoc, List.length_append, frm_length]
  omega
theorem frms_append (l m : List (List UInt8)) : frms (l ++ m) = frms l ++ frms m := by simp [frms]
end Go.Proofs.YthcdkggkoanjpaaGreatDoor

/- Batches that are cut: plain facts. Numbers and types by name. -/
namespace Go.Proofs.YthcdkggkoanjpaaGreatDoor
open Go.RowKit Go.Lib
def small (L : List Opm) : Prop := bulkO L ≤ 5000 ∧ okOps L = true
theorem small_all {L : List Opm} (h : small L) : ∀ o ∈ L, okOp o = true ∧ bulk [o.key, o.val] ≤ 100000 := fun o ho => by
  have hall : L.all okOp = true := by have := h.2; unfold okOps at this; simp only [Bool.and_eq_true] at this; exact this.1
  refine ⟨by simpa using (List.all_eq_true.1 hall) o ho, ?_⟩
  have := bulkO_mem ho
  have := h.1
  simp only [bulk, List.map_cons, List.map_nil, List.sum_cons, List.sum_nil]; omega
theorem play_pays : ∀ (M : List Opm) (i : Nat) (done : List (List Opm)) (now : List Opm) (used : Nat), (∀ o ∈ M, okOp o = true ∧ bulk [o.key, o.val] ≤ 100000) → play (M.map pay) i done now used = (done, used)
  | [], i, done, now, used, _ => rfl
  | o :: M, i, done, now, used, h => by
    rw [List.map_cons, play_op (what_pay o _ (h o (by simp)).2 (h o (by simp)).1)]
    exact play_pays M _ _ _ _ (fun o' ho' => h o' (by simp [ho']))
def allRecs (LL : List (List Opm)) : List (List UInt8) := LL.flatMap recs
theorem allRecs_snoc (LL : List (List Opm)) (L : List Opm) : allRecs (LL ++ [L]) = allRecs LL ++ recs L := by simp [allRecs]
theorem scans_total (b : List UInt8) : ∃ l n, Scans b l n := by
  induction hk : b.length using Nat.strongRecOn generalizing b with
  | _ k ih =>
    cases ho : one? b with
    | none => exact ⟨[], 0, .stop ho⟩
    | some pr =>
      obtain ⟨p, r⟩ := pr
      have hr : r.length < b.length := by
        unfold one? at ho
        split at ho
        · cases ho
        · next n q hn =>
          have hq : q.length < b.length := by
            unfold num? at hn
            split at hn
            · simp only [Option.some.injEq, Prod.mk.injEq] at hn; rw [← hn.2]; simp; omega
            · cases hn
          split at ho
          · cases ho
          · next s q2 hs =>
            have hq2 : q2.length ≤ q.length := by
              unfold num? at hs
              split at hs
              · simp only [Option.some.injEq, Prod.mk.injEq] at hs; rw [← hs.2]; simp
              · cases hs
            split at ho
            · simp only [Option.some.injEq, Prod.mk.injEq] at ho; rw [← ho.2]; simp; omega
            · cases ho
      obtain ⟨l, n, h⟩ := ih r.length (by omega) r rfl
      exact ⟨p :: l, _, .more ho h⟩
def endR (ps : List (List UInt8)) (j : Nat) : Nat := (frms (ps.take j)).length
theorem endR_at (ps : List (List UInt8)) (t : Nat) (ht : t < (frms ps).length) : ∃ j, j < ps.length ∧ endR ps j ≤ t ∧ t < endR ps (j + 1) := by
  have key : ∀ m : Nat, (∃ j, j < m ∧ endR ps j ≤ t ∧ t < endR ps (j + 1)) ∨ endR ps m ≤ t := by
    intro m
    induction m with
    | zero => right; simp [endR, frms]
    | succ m ih =>
      rcases ih with ⟨j, h1, h2, h3⟩ | h
      · exact .inl ⟨j, by omega, h2, h3⟩
      · by_cases h' : endR ps (m + 1) ≤ t
        · exact .inr h'
        · exact .inl ⟨m, by omega, h, by omega⟩
  rcases key ps.length with h | h
  · exact h
  · unfold endR at h; rw [List.take_length] at h; omega
theorem scans_inside {ps : List (List UInt8)} {t : Nat} (hp : ∀ p ∈ ps, p.length ≤ 1048576) (ht : t < (frms ps).length) : ∃ j n, j < ps.length ∧ Scans ((frms ps).take t) (ps.take j) n := by
  obtain ⟨j, hj, h1, h2⟩ := endR_at ps t ht
  have hx : ps[j]? = some (ps[j]'hj) := List.getElem?_eq_getElem hj
  generalize ps[j]'hj = p at hx
  have hs : frms (ps.take (j + 1)) = frms (ps.take j) ++ frm p := by rw [take_more hx, frms_snoc]
  unfold endR at h1 h2
  rw [hs, List.length_append] at h2
  have e : frms ps = frms (ps.take j) ++ (frm p ++ frms (ps.drop (j + 1))) := by
    have e1 : ps = ps.take j ++ ([p] ++ ps.drop (j + 1)) := by
      have := List.take_append_drop (j + 1) ps
      rw [take_more hx, List.append_assoc] at this
      exact this.symm
    conv => lhs; rw [e1]
    simp [frms]
  have e2 : (frms ps).take t = frms (ps.take j) ++ (frm p).take (t - (frms (ps.take j)).length) := by
    rw [e, List.take_append, List.take_of_length_le h1, List.take_append_of_le_length (by omega)]
  exact ⟨j, _, hj, by rw [e2]; exact scans_cut _ p _ (fun x hx => hp x (List.mem_of_mem_take hx)) (.inr ⟨_, by omega, hp p (List.mem_of_getElem? hx), rfl⟩)⟩
end Go.Proofs.YthcdkggkoanjpaaGreatDoor

namespace Go.Proofs.YthcdkggkoanjpaaGreatDoor
open Go.RowKit Go.Lib
def logK : List UInt8 := [108, 111, 103]
def logS : ByteArray := ⟨#[108, 111, 103]⟩
theorem logS_list : logS.data.toList = logK := rfl
noncomputable def scn (b : List UInt8) : List (List UInt8) := Classical.choose (scans_total b)
theorem scn_of {b : List UInt8} {l : List (List UInt8)} {n : Nat} (h : Scans b l n) : scn b = l := by
  obtain ⟨m, hm⟩ := Classical.choose_spec (scans_total b)
  exact (scans_det hm h).1
noncomputable def scnN (b : List UInt8) : Nat := Classical.choose (Classical.choose_spec (scans_total b))
theorem scn_spec (b : List UInt8) : Scans b (scn b) (scnN b) := Classical.choose_spec (Classical.choose_spec (scans_total b))
noncomputable def batsOf (b : List UInt8) : List (List Opm) := (play (scn b) 0 [] [] 0).1
noncomputable def usedOf (b : List UInt8) : Nat := (play (scn b) 0 [] [] 0).2
noncomputable def endOf (b : List UInt8) : Nat := (frms ((scn b).take (usedOf b))).length
structure Opened where
  e : Int
  M : MD
  n : Nat
  l : List (List Opm)
noncomputable def openR (M : MD) (b : List UInt8) : Opened :=
  if (M.act (opSync logK)).1 = 0 then ⟨0, (M.act (opSync logK)).2, endOf b, batsOf b⟩ else ⟨(M.act (opSync logK)).1, (M.act (opSync logK)).2, 0, []⟩
noncomputable def openQ (M : MD) (b : List UInt8) : Opened :=
  if endOf b < b.length then
    if (M.act (opCut logK (endOf b))).1 = 0 then openR (M.act (opCut logK (endOf b))).2 b else ⟨(M.act (opCut logK (endOf b))).1, (M.act (opCut logK (endOf b))).2, 0, []⟩
  else openR M b
noncomputable def openP (M : MD) : Opened :=
  if (M.read logK).2 = 3 then
    if (M.act (opCreate logK)).1 = 0 then openQ (M.act (opCreate logK)).2 [] else ⟨(M.act (opCreate logK)).1, (M.act (opCreate logK)).2, 0, []⟩
  else if (M.read logK).2 = 0 then openQ M (M.read logK).1 else ⟨(M.read logK).2, M, 0, []⟩
structure Wrote where
  e : Int
  M : MD
  n : Nat
  s : Bool
def commitC (M : MD) (e : Int) (n : Nat) : Wrote :=
  if e = 7 then ⟨7, M, n, true⟩ else ⟨e, (M.act (opCut logK n)).2, n, decide ((M.act (opCut logK n)).1 ≠ 0)⟩
def commitA (M : MD) (n : Nat) (x : List UInt8) : Wrote :=
  if (M.act (opAppend logK x)).1 = 0 then
    if ((M.act (opAppend logK x)).2.act (opSync logK)).1 = 0 then ⟨0, ((M.act (opAppend logK x)).2.act (opSync logK)).2, n + x.length, false⟩
    else commitC ((M.act (opAppend logK x)).2.act (opSync logK)).2 ((M.act (opAppend logK x)).2.act (opSync logK)).1 n
  else commitC (M.act (opAppend logK x)).2 (M.act (opAppend logK x)).1 n
def commitP (M : MD) (n : Nat) (s : Bool) (L : List Opm) : Wrote :=
  if s = true then ⟨8, M, n, s⟩ else if okOps L = false then ⟨1, M, n, s⟩ else commitA M n (frms (recs L))
def resetP (M : MD) (n : Nat) (s : Bool) : Wrote :=
  if s = true then ⟨8, M, n, s⟩ else ⟨(M.act (opCut logK 0)).1, (M.act (opCut logK 0)).2, if (M.act (opCut logK 0)).1 = 0 then 0 else n, decide ((M.act (opCut logK 0)).1 = 7)⟩
theorem scans_size {b : List UInt8} {l : List (List UInt8)} {n : Nat} (h : Scans b l n) : (frms l).length = n := by
  induction h with
  | stop _ => simp [frms]
  | more _ _ ih =>
    rw [show ∀ (p : List UInt8) (l : List (List UInt8)), frms (p :: l) = frm p ++ frms l from fun p l => by simp [frms], List.length_append, frm_length, ih]
theorem frms_take (l : List (List UInt8)) (i : Nat) : (frms (l.take i)).length ≤ (frms l).length := by
  conv => rhs; rw [← List.take_append_drop i l, frms_append, List.length_append]
  omega
theorem frms_next {l : List (List UInt8)} {i : Nat} {p : List UInt8} (h : l[i]? = some p) : (frms (l.take (i + 1))).length = (frms (l.take i)).length + 8 + p.length := by
  have hlt := (List.getElem?_eq_some_iff.1 h).1
  rw [List.getElem?_eq_getElem hlt] at h
  rw [List.take_succ_eq_append_getElem hlt, frms_append, List.length_append, Option.some.inj h]
  simp [frms, frm_length]; omega
theorem well_openR {K : Nat} {M : MD} {j : Nat} (h : Well K M j) (b : List UInt8) : Well K (openR M b).M (j + 1) := by
  unfold openR
  split <;> exact well_sync h logK
theorem well_openQ {K : Nat} {M : MD} {j : Nat} (h : Well K M j) (b : List UInt8) : Well K (openQ M b).M (j + 2) := by
  unfold openQ
  split
  · split
    · exact well_openR (well_cut h logK _) b
    · exact well_more (well_cut h logK _) (by omega)
  · exact well_more (well_openR h b) (by omega)
theorem well_open {K : Nat} {M : MD} {j : Nat} (h : Well K M j) : Well K (openP M).M (j + 3) := by
  unfold openP
  split
  · split
    · exact well_openQ (well_create h logK) []
    · exact well_more (well_create h logK) (by omega)
  · split
    · exact well_more (well_openQ h _) (by omega)
    · exact well_more h (by omega)
theorem well_commitC {K : Nat} {M : MD} {j : Nat} (h : Well K M j) (e : Int) (n : Nat) : Well K (commitC M e n).M (j + 1) := by
  unfold commitC
  split
  · exact well_more h (by omega)
  · exact well_cut h logK _
theorem well_commitA {K : Nat} {M : MD} {j : Nat} (h : Well K M j) (n : Nat) (x : List UInt8) (hx : x.length ≤ K) : Well K (commitA M n x).M (j + 3) := by
  have ha := well_append h logK x hx
  have hs := well_sync ha logK
  unfold commitA
  split
  · split
    · exact well_more hs (by omega)
    · exact well_commitC hs _ n
  · exact well_more (well_commitC ha _ n) (by omega)
theorem well_commit {K : Nat} {M : MD} {j : Nat} (h : Well K M j) (n : Nat) (s : Bool) (L : List Opm) (hx : (frms (recs L)).length ≤ K) : Well K (commitP M n s L).M (j + 3) := by
  unfold commitP
  split
  · exact well_more h (by omega)
  · split
    · exact well_more h (by omega)
    · exact well_commitA h n _ hx
theorem well_reset {K : Nat} {M : MD} {j : Nat} (h : Well K M j) (n : Nat) (s : Bool) : Well K (resetP M n s).M (j + 1) := by
  unfold resetP
  split
  · exact well_more h (by omega)
  · exact well_cut h logK 0
theorem endOf_nil : endOf [] = 0 := by
  unfold endOf
  rw [scn_of scans_nil]
  simp [frms]
theorem batsOf_nil : batsOf [] = [] := by
  unfold batsOf
  rw [scn_of scans_nil]
  rfl
end Go.Proofs.YthcdkggkoanjpaaGreatDoor
