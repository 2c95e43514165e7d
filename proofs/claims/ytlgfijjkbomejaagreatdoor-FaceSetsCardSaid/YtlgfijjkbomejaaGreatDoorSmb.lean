/- The reference's comparing of trees: nodes, texts, expressions. Numbers and types by name. -/
import Derived.Test.YtlgfijjkbomejaaGreatDoorPlf
import Derived.Test.YtlgfijjkbomejaaGreatDoorLtb
/- Places alone: the plain parser over tokens that differ in places alone. Plain facts. Numbers and types by name. -/
namespace Go.Proofs.YtlgfijjkbomejaaGreatDoor
open Go.RowKit Go.Lib
set_option maxRecDepth 100000

def Tk.er (t : Tk) : Tk := { t with pos := 0 }
def PS.er (s : PS) : PS := { s with pos := 0 }
def Nd.er (o : Nd) : Nd := { o with pos := 0 }
def erN (l : List Nd) : List Nd := l.map Nd.er
def SH.er (h : SH) : SH := { h with pos := 0, e := erN h.e, args := h.args.map erN }
mutual
def Stm.er : Stm → Stm
  | .mk h b e => .mk h.er (erS b) (erS e)
def erS : List Stm → List Stm
  | [] => []
  | s :: r => s.er :: erS r
end
theorem erS_map : ∀ l : List Stm, erS l = l.map Stm.er
  | [] => by unfold erS; rfl
  | s :: r => by
    unfold erS
    rw [erS_map r]
    rfl
theorem er_mk (h : SH) (b e : List Stm) : (Stm.mk h b e).er = .mk h.er (b.map Stm.er) (e.map Stm.er) := by
  rw [← erS_map, ← erS_map]
  rw [Stm.er]
def Par.er (p : Par) : Par := { p with pos := 0 }
def Imp.er (p : Imp) : Imp := { p with pos := 0 }
def Vrb.er (p : Vrb) : Vrb := { p with pos := 0 }
def Prc.er (p : Prc) : Prc := { p with pos := 0, params := p.params.map Par.er, body := p.body.map Stm.er }
def Mdl.er (m : Mdl) : Mdl := { m with pos := 0, imports := m.imports.map Imp.er, vars := m.vars.map Vrb.er, procs := m.procs.map Prc.er }

section
variable {L : List Tk}
theorem cur_er (s : PS) : curT (L.map Tk.er) s.er = (curT L s).er := by
  show (L.map Tk.er).getD s.i ⟨0, [], 0⟩ = (L.getD s.i ⟨0, [], 0⟩).er
  rw [List.getD_eq_getElem?_getD, List.getD_eq_getElem?_getD, List.getElem?_map]
  cases L[s.i]? <;> rfl
theorem is_er (s : PS) (t : List UInt8) : isT (L.map Tk.er) s.er t = isT L s t := by
  unfold isT
  rw [cur_er]
  rfl
theorem fail_er (s : PS) (x : Int) : failT (L.map Tk.er) s.er x = (failT L s x).er := by
  unfold failT
  rw [cur_er]
  by_cases h : s.e = 0
  · rw [if_pos h, if_pos (show s.er.e = 0 from h)]
    rfl
  · rw [if_neg h, if_neg (show ¬ s.er.e = 0 from h)]
theorem want_er (s : PS) (t : List UInt8) : wantT (L.map Tk.er) s.er t = (wantT L s t).er := by
  unfold wantT
  rw [is_er, fail_er]
  split <;> rfl
theorem take_er (s : PS) (t : List UInt8) : takeT (L.map Tk.er) s.er t = (takeT L s t).er := by
  unfold takeT
  rw [is_er]
  split <;> rfl
theorem open_er (s : PS) (t : List UInt8) : openT (L.map Tk.er) s.er t = (openT L s t).er := by
  unfold openT
  simp only
  rw [is_er, fail_er]
  have : (if isT L s t = true ∧ 40 ≤ s.er.deep then (failT L s 12).er else s.er) = (if isT L s t = true ∧ 40 ≤ s.deep then failT L s 12 else s).er := by
    by_cases h : isT L s t = true ∧ 40 ≤ s.deep
    · rw [if_pos h, if_pos (show isT L s t = true ∧ 40 ≤ s.er.deep from h)]
    · rw [if_neg h, if_neg (show ¬ (isT L s t = true ∧ 40 ≤ s.er.deep) from h)]
  rw [this, want_er]
  rfl
theorem name_er (s : PS) : nameT (L.map Tk.er) s.er = ((nameT L s).1, (nameT L s).2.er) := by
  unfold nameT
  rw [cur_er, fail_er]
  by_cases h : s.e ≠ 0 ∨ (curT L s).kind ≠ 1
  · rw [if_pos h, if_pos (show s.er.e ≠ 0 ∨ (curT L s).er.kind ≠ 1 from h)]
  · rw [if_neg h, if_neg (show ¬ (s.er.e ≠ 0 ∨ (curT L s).er.kind ≠ 1) from h)]
    rfl
theorem go_er (s : PS) : s.go.er = s.er.go := rfl
theorem qname_er (s : PS) : qnameT (L.map Tk.er) s.er = ((qnameT L s).1, (qnameT L s).2.er) := by
  unfold qnameT
  simp only
  rw [name_er]
  simp only
  rw [is_er]
  split
  · rw [← go_er, name_er]
  · rfl
theorem which_er (s : PS) : ∀ ops : List (List UInt8 × Int), whichT (L.map Tk.er) s.er ops = whichT L s ops
  | [] => rfl
  | (t, k) :: r => by
    unfold whichT
    rw [is_er, which_er s r]
theorem er_two (l : List Nd) (a k : Int) (p : Nat) : erN (twoT l a k p) = twoT (erN l) a k 0 := by
  unfold twoT erN
  rw [List.map_append, List.length_map]
  rfl
def ExR (U U0 : EX) : Prop := ∀ s l, U0 s.er (erN l) = (erN (U s l).1, (U s l).2.er)
theorem opLoop_er (ops : List (List UInt8 × Int)) {U U0 : EX} (hU : ExR U U0) : ∀ (n : Nat) (s : PS) (l : List Nd), opLoop (L.map Tk.er) ops U0 n s.er (erN l) = (erN (opLoop L ops U n s l).1, (opLoop L ops U n s l).2.er)
  | 0, _, _ => rfl
  | n + 1, s, l => by
    unfold opLoop
    rw [which_er, cur_er]
    by_cases h : s.e ≠ 0
    · rw [if_pos h, if_pos (show s.er.e ≠ 0 from h)]
    · rw [if_neg h, if_neg (show ¬ s.er.e ≠ 0 from h)]
      cases whichT L s ops with
      | none => rfl
      | some k =>
        simp only
        rw [← go_er, hU]
        simp only
        rw [show (erN l).length = l.length by unfold erN; rw [List.length_map]]
        rw [show (curT L s).er.pos = 0 from rfl, ← er_two _ _ _ (curT L s).pos]
        exact opLoop_er ops hU n _ _
theorem opT_er (ops : List (List UInt8 × Int)) {U U0 : EX} (hU : ExR U U0) (n : Nat) : ExR (opT L ops U n) (opT (L.map Tk.er) ops U0 n) := by
  intro s l
  unfold opT
  simp only
  rw [hU]
  exact opLoop_er ops hU n _ _
theorem expr_er {U U0 : EX} (hU : ExR U U0) (n : Nat) : ExR (exprT L U n) (exprT (L.map Tk.er) U0 n) := by
  have h1 := opT_er (L := L) addOps (opT_er (L := L) mulOps hU n) n
  intro s l
  unfold exprT
  simp only
  have h2 := h1 s l
  unfold sumT termT at *
  rw [h2]
  simp only
  rw [which_er, cur_er]
  cases whichT L (opT L addOps (opT L mulOps U n) n s l).2 relOps with
  | none => rfl
  | some k =>
    simp only
    rw [← go_er, h1]
    simp only
    rw [show (erN (opT L addOps (opT L mulOps U n) n s l).1).length = (opT L addOps (opT L mulOps U n) n s l).1.length by unfold erN; rw [List.length_map]]
    rw [er_two]
    rfl
theorem erN_snoc (l : List Nd) (x : Nd) : erN (l ++ [x]) = erN l ++ [x.er] := by
  unfold erN
  rw [List.map_append]
  rfl
theorem erN_len (l : List Nd) : (erN l).length = l.length := by unfold erN; rw [List.length_map]
theorem unary_er : ∀ n : Nat, ExR (unaryT L n) (unaryT (L.map Tk.er) n)
  | 0 => fun _ _ => rfl
  | n + 1 => fun s l => by
    unfold unaryT
    simp only
    rw [is_er, is_er, is_er, cur_er, fail_er]
    by_cases h : s.e ≠ 0
    · rw [if_pos h, if_pos (show s.er.e ≠ 0 from h)]
    rw [if_neg h, if_neg (show ¬ s.er.e ≠ 0 from h)]
    split
    · rw [show (curT L s).er.text = (curT L s).text from rfl, open_er, unary_er n, erN_snoc, erN_len]
      rfl
    split
    · rw [open_er, expr_er (unary_er n) n]
      simp only
      rw [want_er]
      rfl
    by_cases h2 : (curT L s).kind = 2
    · rw [if_pos h2, if_pos (show (curT L s).er.kind = 2 from h2), erN_snoc]
      rfl
    rw [if_neg h2, if_neg (show ¬ (curT L s).er.kind = 2 from h2)]
    by_cases h1 : (curT L s).kind = 1
    · rw [if_pos h1, if_pos (show (curT L s).er.kind = 1 from h1), qname_er, erN_snoc]
      rfl
    rw [if_neg h1, if_neg (show ¬ (curT L s).er.kind = 1 from h1)]
def OneR {α : Type} (f : α → α) (one one0 : PS → α × PS) : Prop := ∀ s, one0 s.er = (f (one s).1, (one s).2.er)
theorem exprN_er : OneR erN (exprN L) (exprN (L.map Tk.er)) := by
  intro s
  unfold exprN
  rw [List.length_map]
  exact expr_er (unary_er _) _ s []
theorem listLoop_er {α : Type} {f : α → α} {one one0 : PS → α × PS} (h : OneR f one one0) : ∀ (n : Nat) (s : PS) (acc : List α), listLoop (L.map Tk.er) one0 n s.er (acc.map f) = ((listLoop L one n s acc).1.map f, (listLoop L one n s acc).2.er)
  | 0, _, _ => rfl
  | n + 1, s, acc => by
    unfold listLoop
    simp only
    rw [h]
    simp only
    rw [is_er]
    by_cases he : s.e ≠ 0
    · rw [if_pos he, if_pos (show s.er.e ≠ 0 from he)]
    rw [if_neg he, if_neg (show ¬ s.er.e ≠ 0 from he)]
    have e : acc.map f ++ [f (one s).1] = (acc ++ [(one s).1]).map f := by rw [List.map_append]; rfl
    split
    · rw [e, ← go_er]
      exact listLoop_er h n _ _
    · rw [e]
theorem list_er {α : Type} {f : α → α} {one one0 : PS → α × PS} (h : OneR f one one0) (s : PS) (t : List UInt8) : listT (L.map Tk.er) one0 s.er t = ((listT L one s t).1.map f, (listT L one s t).2.er) := by
  unfold listT
  simp only
  rw [is_er, List.length_map]
  split
  · simp only
    rw [want_er]
    rfl
  · have := listLoop_er (L := L) h (L.length + 1) s []
    rw [List.map_nil] at this
    rw [this]
    simp only
    rw [want_er]
theorem param_er : OneR Par.er (paramT L) (paramT (L.map Tk.er)) := by
  intro s
  unfold paramT
  simp only
  rw [name_er, cur_er]
  simp only
  rw [want_er, name_er]
  rfl
theorem call_er (s : PS) (pos : Nat) : callT (L.map Tk.er) s.er 0 = ((callT L s pos).1.er, (callT L s pos).2.er) := by
  unfold callT
  simp only
  rw [qname_er]
  simp only
  rw [is_er]
  split
  · rw [← go_er, qname_er]
    simp only
    rw [want_er, list_er exprN_er]
    rfl
  · simp only
    rw [want_er, list_er exprN_er]
    rfl
theorem set_er (s : PS) (pos : Nat) : setT (L.map Tk.er) s.er 0 = ((setT L s pos).1.er, (setT L s pos).2.er) := by
  unfold setT
  simp only
  rw [qname_er]
  simp only
  rw [want_er, exprN_er]
  rfl
theorem let_er (s : PS) (pos : Nat) : letT (L.map Tk.er) s.er 0 = ((letT L s pos).1.er, (letT L s pos).2.er) := by
  unfold letT
  simp only
  rw [name_er]
  simp only
  rw [want_er, name_er]
  simp only
  rw [want_er, exprN_er]
  rfl
theorem result_er (s : PS) (pos : Nat) : resultT (L.map Tk.er) s.er 0 = ((resultT L s pos).1.er, (resultT L s pos).2.er) := by
  unfold resultT
  simp only
  rw [want_er, exprN_er]
  rfl
theorem emit_er (s : PS) (pos : Nat) : emitT (L.map Tk.er) s.er 0 = ((emitT L s pos).1.er, (emitT L s pos).2.er) := by
  unfold emitT
  simp only
  rw [name_er]
  rfl
theorem end_er {r r0 : SH × PS} (h : r0 = (r.1.er, r.2.er)) : endT (L.map Tk.er) r0 = ((endT L r).1.er, (endT L r).2.er) := by
  subst h
  unfold endT
  rw [want_er, er_mk]
  rfl
theorem stmLoop_er {S S0 : PS → Stm × PS} (h : OneR Stm.er S S0) : ∀ (n : Nat) (s : PS) (acc : List Stm), stmLoop (L.map Tk.er) S0 n s.er (acc.map Stm.er) = ((stmLoop L S n s acc).1.map Stm.er, (stmLoop L S n s acc).2.er)
  | 0, _, _ => rfl
  | n + 1, s, acc => by
    unfold stmLoop
    simp only
    rw [h, is_er]
    by_cases he : s.e ≠ 0 ∨ isT L s [125] = true
    · rw [if_pos he, if_pos (show s.er.e ≠ 0 ∨ isT L s [125] = true from he)]
    rw [if_neg he, if_neg (show ¬ (s.er.e ≠ 0 ∨ isT L s [125] = true) from he)]
    have e : acc.map Stm.er ++ [(S s).1.er] = (acc ++ [(S s).1]).map Stm.er := by rw [List.map_append]; rfl
    simp only
    rw [e]
    exact stmLoop_er h n _ _
theorem block_er {S S0 : PS → Stm × PS} (h : OneR Stm.er S S0) (n : Nat) : OneR (List.map Stm.er) (blockT L S n) (blockT (L.map Tk.er) S0 n) := by
  intro s
  unfold blockT
  simp only
  have := stmLoop_er (L := L) h n (openT L s [123]) []
  rw [List.map_nil] at this
  rw [open_er, this]
  simp only
  rw [want_er]
  rfl
theorem stmt_er : ∀ n : Nat, OneR Stm.er (stmtT L n) (stmtT (L.map Tk.er) n)
  | 0 => fun _ => by
    unfold stmtT
    simp only [er_mk]
    rfl
  | n + 1 => fun s => by
    unfold stmtT
    simp only
    rw [cur_er, is_er, is_er, is_er, is_er, is_er, is_er, is_er, fail_er, show (curT L s).er.pos = 0 from rfl]
    by_cases h0 : s.e = 0 ∧ (curT L s).kind = 1
    · rw [if_pos h0, if_pos (show s.er.e = 0 ∧ (curT L s).er.kind = 1 from h0)]
      exact end_er (set_er s _)
    rw [if_neg h0, if_neg (show ¬ (s.er.e = 0 ∧ (curT L s).er.kind = 1) from h0), ← go_er]
    split
    · exact end_er (let_er _ _)
    split
    · exact end_er (result_er _ _)
    split
    · exact end_er (call_er _ _)
    split
    · exact end_er (emit_er _ _)
    split
    · exact end_er rfl
    split
    · rw [exprN_er]
      simp only
      rw [block_er (stmt_er n) n]
      simp only
      rw [is_er]
      split
      · rw [← go_er, block_er (stmt_er n) n, er_mk]
        rfl
      · rw [er_mk]
        rfl
    split
    · rw [exprN_er]
      simp only
      rw [block_er (stmt_er n) n, er_mk]
      rfl
    · rw [er_mk]
      rfl
theorem blockN_er : OneR (List.map Stm.er) (blockN L) (blockN (L.map Tk.er)) := by
  intro s
  unfold blockN
  rw [List.length_map]
  exact block_er (stmt_er _) _ s
theorem nameR : OneR id (nameT L) (nameT (L.map Tk.er)) := fun s => name_er s
theorem proc_er : OneR Prc.er (procT L) (procT (L.map Tk.er)) := by
  intro s
  unfold procT
  simp only
  rw [name_er, cur_er]
  simp only
  rw [want_er, list_er param_er]
  simp only
  rw [is_er]
  split
  · rw [← go_er, name_er]
    simp only
    rw [want_er, name_er]
    simp only
    rw [want_er, want_er, list_er nameR]
    simp only
    rw [blockN_er, List.map_id]
    rfl
  · simp only
    rw [want_er, name_er]
    simp only
    rw [want_er, want_er, list_er nameR]
    simp only
    rw [blockN_er, List.map_id]
    rfl
theorem var_er : OneR Vrb.er (varT L) (varT (L.map Tk.er)) := by
  intro s
  unfold varT
  simp only
  rw [name_er, cur_er]
  simp only
  rw [want_er, name_er]
  simp only
  rw [want_er, take_er, cur_er, is_er, fail_er, ← go_er, want_er]
  generalize takeT L (wantT L (nameT L (wantT L (nameT L s).2 [58])).2 [61]) [45] = s4
  by_cases h : s4.e ≠ 0 ∨ (curT L s4).kind ≠ 2
  · rw [if_pos h, if_pos (show s4.er.e ≠ 0 ∨ (curT L s4).er.kind ≠ 2 from h)]
    rfl
  · rw [if_neg h, if_neg (show ¬ (s4.er.e ≠ 0 ∨ (curT L s4).er.kind ≠ 2) from h)]
    rfl
theorem imp_er : ∀ (n : Nat) (s : PS) (acc : List Imp), impLoop (L.map Tk.er) n s.er (acc.map Imp.er) = ((impLoop L n s acc).1.map Imp.er, (impLoop L n s acc).2.er)
  | 0, _, _ => rfl
  | n + 1, s, acc => by
    unfold impLoop
    simp only
    rw [is_er, ← go_er, name_er, cur_er]
    simp only
    rw [want_er]
    split
    · have e : acc.map Imp.er ++ [(⟨(nameT L s.go).1, (curT L s.go).er.pos⟩ : Imp)] = (acc ++ [(⟨(nameT L s.go).1, (curT L s.go).pos⟩ : Imp)]).map Imp.er := by rw [List.map_append]; rfl
      rw [e]
      exact imp_er n _ _
    · rfl
theorem decl_er : ∀ (n : Nat) (s : PS) (vs : List Vrb) (ps : List Prc), declLoop (L.map Tk.er) n s.er (vs.map Vrb.er) (ps.map Prc.er) = (((declLoop L n s vs ps).1.1.map Vrb.er, (declLoop L n s vs ps).1.2.map Prc.er), (declLoop L n s vs ps).2.er)
  | 0, _, _, _ => rfl
  | n + 1, s, vs, ps => by
    unfold declLoop
    simp only
    rw [is_er, is_er, ← go_er, var_er, proc_er, cur_er, fail_er]
    simp only
    by_cases h : s.e ≠ 0 ∨ (curT L s).kind = 0
    · rw [if_pos h, if_pos (show s.er.e ≠ 0 ∨ (curT L s).er.kind = 0 from h)]
    rw [if_neg h, if_neg (show ¬ (s.er.e ≠ 0 ∨ (curT L s).er.kind = 0) from h)]
    have e1 : vs.map Vrb.er ++ [(varT L s.go).1.er] = (vs ++ [(varT L s.go).1]).map Vrb.er := by rw [List.map_append]; rfl
    have e2 : ps.map Prc.er ++ [(procT L s.go).1.er] = (ps ++ [(procT L s.go).1]).map Prc.er := by rw [List.map_append]; rfl
    rw [e1, e2]
    split
    · exact decl_er n _ _ _
    split
    · exact decl_er n _ _ _
    · exact decl_er n _ _ _
theorem module_er (s : PS) : moduleT (L.map Tk.er) s.er = ((moduleT L s).1.er, (moduleT L s).2.er) := by
  unfold moduleT
  simp only
  rw [want_er, name_er, cur_er]
  simp only
  rw [want_er, List.length_map]
  have h1 := imp_er (L := L) (L.length + 1) (wantT L (nameT L (wantT L s kModule)).2 [59]) []
  rw [List.map_nil] at h1
  rw [h1]
  simp only
  have h2 := decl_er (L := L) (L.length + 1) (impLoop L (L.length + 1) (wantT L (nameT L (wantT L s kModule)).2 [59]) []).2 [] []
  rw [List.map_nil, List.map_nil] at h2
  rw [h2]
  rfl
end
theorem er_of_kt : ∀ {L L' : List Tk}, ktL L = ktL L' → L.map Tk.er = L'.map Tk.er
  | [], [], _ => rfl
  | [], _ :: _, h => by cases h
  | _ :: _, [], h => by cases h
  | t :: l, t' :: l', h => by
    unfold ktL at h
    simp only [List.map_cons, List.cons.injEq, Prod.mk.injEq] at h
    rw [List.map_cons, List.map_cons, er_of_kt h.2]
    congr 1
    unfold Tk.er
    rw [h.1.1, h.1.2]
/-- Texts whose tokens are one but for places are parsed alike but for places. -/
theorem parse_alike {a b : List UInt8} (ha : (lexP a).e = 0) (hb : (lexP b).e = 0) (h : ktL (lexP a).l = ktL (lexP b).l) : (parseP a).2.1 = (parseP b).2.1 ∧ (parseP a).1.er = (parseP b).1.er := by
  have h1 := module_er (L := (lexP a).l) ps0
  have h2 := module_er (L := (lexP b).l) ps0
  rw [er_of_kt h, h2] at h1
  simp only [Prod.mk.injEq] at h1
  have he : (moduleT (lexP b).l ps0).2.e = (moduleT (lexP a).l ps0).2.e := by
    have := congrArg PS.e h1.2
    exact this
  have pp : ∀ {c : List UInt8}, (lexP c).e = 0 → parseP c = if (moduleT (lexP c).l ps0).2.e ≠ 0 then (mdl0, (moduleT (lexP c).l ps0).2.e, (moduleT (lexP c).l ps0).2.pos) else ((moduleT (lexP c).l ps0).1, 0, 0) := fun {c} hc => by
    unfold parseP
    rw [if_neg (by rw [hc]; simp)]
  rw [pp ha, pp hb]
  by_cases hz : (moduleT (lexP a).l ps0).2.e = 0
  · rw [if_neg (by rw [hz]; simp), if_neg (by rw [he, hz]; simp)]
    exact ⟨rfl, h1.1.symm⟩
  · rw [if_pos hz, if_pos (by rw [he]; exact hz), he]
    exact ⟨rfl, rfl⟩

end Go.Proofs.YtlgfijjkbomejaaGreatDoor

namespace Go.Proofs.YtlgfijjkbomejaaGreatDoor
open Go.RowKit Go.Lib
set_option maxRecDepth 100000

/-- What comparing tells. -/
def Cmp (X : Prop) (w : World) (e : Ending) (w' : World) : Prop := ∃ b : Bool, e = .returned (.bool b) ∧ (b = true ↔ X) ∧ Grow w w'
theorem er_take_next {α β : Type} (f : α → β) {a b : List α} {k : Nat} {x y : α} (hx : a[k]? = some x) (hy : b[k]? = some y) (h : (a.take k).map f = (b.take k).map f) (hf : f x = f y) : (a.take (k + 1)).map f = (b.take (k + 1)).map f := by
  rw [take_next hx, take_next hy, List.map_append, List.map_append, h]
  simp [hf]
theorem map_at {α β : Type} (f : α → β) {a b : List α} {k : Nat} {x y : α} (hx : a[k]? = some x) (hy : b[k]? = some y) (h : a.map f = b.map f) : f x = f y := by
  have := congrArg (·[k]?) h
  simpa [List.getElem?_map, hx, hy] using this

theorem two_new (w : World) (o p : Obj) : ((w.alloc o).alloc p).drew.heap[w.heap.size]? = some o ∧ ((w.alloc o).alloc p).drew.heap[w.heap.size + 1]? = some p ∧ Grow w ((w.alloc o).alloc p).drew := by
  have hsz : (w.alloc o).heap.size = w.heap.size + 1 := by simp
  refine ⟨(heap_alloc_old (w.alloc o) p (by rw [hsz]; exact Nat.lt_succ_self _)).trans (heap_alloc_new w o), ?_, (((Below.refl _ w).alloc (Nat.le_refl _) _).alloc (by simp) _).drew⟩
  have := heap_alloc_new (w.alloc o) p
  rw [hsz] at this
  exact this
theorem txs_at {w : World} {ao : Option Addr} {n c : Nat} {l : List (List UInt8)} (h : TRows w 1 TxtT (.slice ao n c) l) {k : Nat} (hk : k < n) : ∃ a o, ao = some a ∧ l[k]? = some o ∧ w.cell? (a.add k) = some (.string (tx o)) := by
  obtain ⟨a, o, cs, rfl, ho, rfl, _, h1, _⟩ := h.at hk
  exact ⟨a, o, rfl, ho, by have := h1 _ rfl; rwa [Nat.mul_one] at this⟩
theorem cmp_texts (v1 v2 : Value) (a b : List (List UInt8)) (w : World) (h1 : TRows w 1 TxtT v1 a) (h2 : TRows w 1 TxtT v2 b) :
    Calls Tryz.prog 23 #[v1, v2] w (Cmp (a = b) w) := by
  obtain ⟨a1, c1, rfl⟩ := h1.shape
  obtain ⟨a2, c2, rfl⟩ := h2.shape
  have m1 := h1.1
  have hml : a.length ≤ 9223372036854775807 := Nat.le_trans m1 (by decide)
  have H1 := Lib.hid h1
  have H2 := Lib.hid h2
  clear h1 h2
  obtain ⟨n, hn⟩ : ∃ n, a.length = n := ⟨_, rfl⟩
  obtain ⟨m, hm⟩ : ∃ n, b.length = n := ⟨_, rfl⟩
  rw [hn] at H1 m1 hml ⊢
  rw [hm] at H2 ⊢
  have HN := Lib.hid (And.intro hn hm)
  clear hn hm
  by_cases hne : n = m
  · subst hne
    go_enter Tryz.func23, Tryz.ntmps23
    go_wp2_with fail
    go_loopw [5] (fun i wr => ∃ k : Nat, k ≤ n ∧ i = .int .i64 k ∧ Hid (Grow w wr ∧ a.take k = b.take k))
      (fun i _ => n - (RowKit.intOf i).toNat)
    case atStart => exact ⟨0, Nat.zero_le _, rfl, Lib.hid ⟨Grow.refl w, rfl⟩⟩
    case round =>
      obtain ⟨k, hk, rfl, hG⟩ := hrel
      by_cases h1 : k < n
      · have h3 : (k : Int) < (n : Int) := by omega
        obtain ⟨x1, o1, rfl, e1, g1⟩ := txs_at (TRows.imp H1.out hG.out.1 fun _ _ h => h) h1
        obtain ⟨x2, o2, rfl, e2, g2⟩ := txs_at (TRows.imp H2.out hG.out.1 fun _ _ h => h) h1
        have HE := Lib.hid (And.intro e1 e2)
        clear e1 e2
        by_cases ho : o1 = o2
        · subst ho
          have HG : Hid (Grow w wr ∧ a.take (k + 1) = b.take (k + 1)) := Lib.hid ⟨hG.out.1, by rw [take_next HE.out.1, take_next HE.out.2, hG.out.2]⟩
          go_wp2_with fail
          go_quiet (fail)
          go_wp2
          case roundEnd => exact ⟨⟨k + 1, by omega, by go_num, Lib.hid ⟨below_drewN HG.out.1 _, HG.out.2⟩⟩, by simp [RowKit.intOf]; omega⟩
        · have y1 := tx_list o1
          have y2 := tx_list o2
          have ho2 : (o1 == o2) = false := by simpa using ho
          have ho3 : (o1 != o2) = true := by simpa using ho
          have HX : Hid (a ≠ b) := Lib.hid (by
            rintro rfl
            have e := HE.out.1.symm.trans HE.out.2
            simp only [Option.some.injEq] at e
            exact ho e)
          go_wp2_with fail
          go_quiet (fail)
          go_wp2
          go_ret
          exact ⟨false, rfl, ⟨(fun h => by cases h), fun h => absurd h HX.out⟩, below_drewN hG.out.1 _⟩
      · have h3 : ¬ (k : Int) < (n : Int) := by omega
        obtain rfl : k = n := by omega
        go_wp2_with fail
        go_ret
        refine ⟨true, rfl, ⟨fun _ => ?_, fun _ => rfl⟩, hG.out.1⟩
        have := hG.out.2
        rw [List.take_of_length_le (by rw [HN.out.1]; exact Nat.le_refl _), List.take_of_length_le (by rw [HN.out.2]; exact Nat.le_refl _)] at this
        exact this
  · have h3 : ¬ (n : Int) = (m : Int) := by omega
    have h4 : ((n : Int) != (m : Int)) = true := by simpa using h3
    go_enter Tryz.func23, Tryz.ntmps23
    go_wp2_with fail
    go_ret
    refine ⟨false, rfl, ⟨(fun h => by cases h), fun h => ?_⟩, Grow.refl w⟩
    have := congrArg List.length h
    rw [HN.out.1, HN.out.2] at this
    exact absurd this hne

/-- But for places, or with them. -/
def Nd.nrm (t : Bool) (o : Nd) : Nd := if t = true then o else o.er
theorem Nd.nrm_er {t : Bool} {o p : Nd} (h : o.nrm t = p.nrm t) : o.er = p.er := by
  unfold Nd.nrm at h
  split at h
  · rw [h]
  · exact h
end Go.Proofs.YtlgfijjkbomejaaGreatDoor
