/- ParseLeft's text: what the lexer and the parser tell of it. Plain facts. Numbers and types by name. -/
import Derived.Test.YtlgfijjkbomejaaGreatDoorPlc
namespace Go.Proofs.YtlgfijjkbomejaaGreatDoor
open Go.RowKit Go.Lib
set_option maxRecDepth 100000

/-- A byte's digits. -/
def dig8 (n : Nat) : List UInt8 := if n < 10 then [UInt8.ofNat (48 + n)] else if n < 100 then [UInt8.ofNat (48 + n / 10), UInt8.ofNat (48 + n % 10)] else [UInt8.ofNat (48 + n / 100), UInt8.ofNat (48 + n / 10 % 10), UInt8.ofNat (48 + n % 10)]
/-- Between two numbers, but for the last blank. -/
def chunkL (n : Nat) : List UInt8 := dig8 n ++ [32, 43, 32, 50, 32, 42]
def preL : List UInt8 := [109, 111, 100, 117, 108, 101, 32, 109, 59, 32, 112, 114, 111, 99, 32, 112, 40, 41, 32, 112, 99, 32, 97, 32, 117, 115, 101, 115, 32, 123, 125, 32, 123, 32, 114, 101, 115, 117, 108, 116, 32, 61]
/-- The numbers' text, with what shuts the block. -/
def sumL : Nat → List Nat → List UInt8
  | n, [] => dig8 n ++ [59, 32, 125]
  | n, m :: l => chunkL n ++ 32 :: sumL m l
/-- Kinds and texts. -/
def ktL (L : List Tk) : List (Int × List UInt8) := L.map fun t => (t.kind, t.text)
theorem kt_shift (m : Nat) (L : List Tk) : ktL (L.map (shiftT m)) = ktL L := by
  unfold ktL
  rw [List.map_map]
  rfl
/-- What stands behind a number, and from a number on. -/
def tailL : List Nat → List (Int × List UInt8)
  | [] => [(4, [59]), (4, [125]), (0, [])]
  | m :: l => (4, [43]) :: (2, [50]) :: (4, [42]) :: (2, dig8 m) :: tailL l
def toksL (n : Nat) (l : List Nat) : List (Int × List UInt8) := (2, dig8 n) :: tailL l
theorem chunk_lex : ∀ n : Fin 256, (lexA 0 (chunkL n)).e = 0 ∧ (ktL (lexA 0 (chunkL n)).l).take 4 = [(2, dig8 n), (4, [43]), (2, [50]), (4, [42])] ∧ (lexA 0 (chunkL n)).l.length = 5 ∧ (lexA 0 (chunkL n)).l[3]? = some ⟨4, [42], (chunkL n).length - 1⟩ := by decide +kernel
theorem last_lex : ∀ n : Fin 256, (lexA 0 (dig8 n ++ [59, 32, 125])).e = 0 ∧ ktL (lexA 0 (dig8 n ++ [59, 32, 125])).l = toksL n [] := by decide +kernel
def preK : List (Int × List UInt8) := [(3, [109, 111, 100, 117, 108, 101]), (1, [109]), (4, [59]), (3, [112, 114, 111, 99]), (1, [112]), (4, [40]), (4, [41]), (3, [112, 99]), (1, [97]), (3, [117, 115, 101, 115]), (4, [123]), (4, [125]), (4, [123]), (3, [114, 101, 115, 117, 108, 116]), (4, [61])]
theorem pre_lex : (lexA 0 preL).e = 0 ∧ (lexA 0 preL).l.length = 16 ∧ (ktL (lexA 0 preL).l).take 15 = preK ∧ (lexA 0 preL).l[14]? = some ⟨4, [61], preL.length - 1⟩ := by decide +kernel
theorem dig_val : ∀ n : Fin 256, numV (dig8 n) = n := by decide +kernel
theorem dig_len (n : Nat) : (dig8 n).length ≤ 3 ∧ 0 < (dig8 n).length := by
  unfold dig8
  split
  · simp
  · split <;> simp
/-- Where a text, cut at its last token, is followed by a blank and another. -/
theorem lex_glue {a b : List UInt8} {i j : Nat} {t : Tk} (h0 : (lexA 0 a).e = 0) (hl : (lexA 0 a).l.length = j + 2) (ht : (lexA 0 a).l[j]? = some t) (hp : t.pos + t.text.length = a.length) (hb : (lexA (i + a.length + 1) b).e = 0) :
    (lexA i (a ++ 32 :: b)).e = 0 ∧ ktL (lexA i (a ++ 32 :: b)).l = (ktL (lexA 0 a).l).take (j + 1) ++ ktL (lexA (i + a.length + 1) b).l := by
  obtain ⟨s1, s2⟩ := lexA_shift i _ 0 a (Nat.le_refl _)
  rw [Nat.zero_add] at s1 s2
  have ht' : (lexA i a).l[j]? = some (shiftT i t) := by
    rw [s1, List.getElem?_map, ht]
    rfl
  obtain ⟨_, _, _, c3⟩ := lexA_cut b _ i a j (shiftT i t) (Nat.le_refl _) (s2.trans h0) ht' (by rw [s1, List.length_map]; omega)
  have e1 : (shiftT i t).pos - i + (shiftT i t).text.length = a.length := by
    show t.pos + i - i + t.text.length = _
    omega
  have e2 : (shiftT i t).pos + (shiftT i t).text.length + 1 = i + a.length + 1 := by
    show t.pos + i + t.text.length + 1 = _
    omega
  rw [e1, e2, List.take_length] at c3
  rw [c3]
  refine ⟨hb, ?_⟩
  unfold appL
  rw [if_pos hb, s1]
  show ktL ((List.map (shiftT i) (lexA 0 a).l).take (j + 1) ++ _) = _
  unfold ktL
  rw [List.map_append, List.map_take, List.map_map]
  rfl
theorem sum_lex : ∀ (l : List Nat) (n i : Nat), n < 256 → (∀ m ∈ l, m < 256) → (lexA i (sumL n l)).e = 0 ∧ ktL (lexA i (sumL n l)).l = toksL n l
  | [], n, i, hn, _ => by
    obtain ⟨h1, h2⟩ := last_lex ⟨n, hn⟩
    obtain ⟨s1, s2⟩ := lexA_shift i _ 0 (dig8 n ++ [59, 32, 125]) (Nat.le_refl _)
    rw [Nat.zero_add] at s1 s2
    refine ⟨s2.trans h1, ?_⟩
    show ktL (lexA i (dig8 n ++ [59, 32, 125])).l = _
    rw [s1, kt_shift]
    exact h2
  | m :: l, n, i, hn, hl => by
    obtain ⟨h1, h2, h3, h4⟩ := chunk_lex ⟨n, hn⟩
    obtain ⟨r1, r2⟩ := sum_lex l m (i + (chunkL n).length + 1) (hl m (by simp)) (fun x hx => hl x (by simp [hx]))
    have hc : 0 < (chunkL n).length := by unfold chunkL; simp
    obtain ⟨g1, g2⟩ := lex_glue (i := i) (b := sumL m l) h1 h3 h4 (by show (chunkL n).length - 1 + 1 = (chunkL n).length; omega) r1
    refine ⟨g1, ?_⟩
    show ktL (lexA i (chunkL n ++ 32 :: sumL m l)).l = _
    rw [g2, r2, h2]
    rfl
def leftT (n : Nat) (l : List Nat) : List UInt8 := preL ++ 32 :: sumL n l
theorem left_lex (l : List Nat) (n : Nat) (hn : n < 256) (hl : ∀ m ∈ l, m < 256) : (lexA 0 (leftT n l)).e = 0 ∧ ktL (lexA 0 (leftT n l)).l = preK ++ toksL n l := by
  obtain ⟨h1, h2, h3, h4⟩ := pre_lex
  obtain ⟨r1, r2⟩ := sum_lex l n (0 + preL.length + 1) hn hl
  obtain ⟨g1, g2⟩ := lex_glue (i := 0) (b := sumL n l) h1 h2 h4 rfl r1
  refine ⟨g1, ?_⟩
  show ktL (lexA 0 (preL ++ 32 :: sumL n l)).l = _
  rw [g2, r2, h3]

section
variable {L : List Tk}
theorem kt_cur {s : PS} {x : Int × List UInt8} {r : List (Int × List UInt8)} (h : ktL (L.drop s.i) = x :: r) : (curT L s).kind = x.1 ∧ (curT L s).text = x.2 ∧ ktL (L.drop (s.i + 1)) = r := by
  unfold ktL at h
  cases hd : L.drop s.i with
  | nil => rw [hd] at h; cases h
  | cons t l =>
    rw [hd] at h
    simp only [List.map_cons, List.cons.injEq] at h
    have hg : curT L s = t := by
      unfold curT
      have : L[s.i]? = some t := by
        have := congrArg (·[0]?) hd
        simpa using this
      rw [List.getD_eq_getElem?_getD, this]
      rfl
    rw [hg, ← h.1]
    refine ⟨rfl, rfl, ?_⟩
    rw [← List.drop_drop, hd]
    exact h.2
theorem kt_is {s : PS} {x : Int × List UInt8} {r : List (Int × List UInt8)} (h : ktL (L.drop s.i) = x :: r) (he : s.e = 0) (t : List UInt8) : isT L s t = ((x.1 == 4 || x.1 == 3) && x.2 == t) := by
  obtain ⟨h1, h2, _⟩ := kt_cur h
  unfold isT
  rw [h1, h2, he]
  rfl
def numN (n : Nat) : Nd := ⟨1, n, [], [], -1, -1, 0⟩
def ez (n : Nd) : Nd := { n with pos := 0 }
theorem unary_num {s : PS} {n : Nat} {r : List (Int × List UInt8)} (h : ktL (L.drop s.i) = (2, dig8 n) :: r) (hn : n < 256) (he : s.e = 0) (q : Nat) (l : List Nd) : ∃ x, unaryT L (q + 1) s l = (l ++ [x], s.go) ∧ ez x = numN n := by
  obtain ⟨h1, h2, _⟩ := kt_cur h
  unfold unaryT
  simp only
  rw [if_neg (by rw [he]; simp), kt_is h he, kt_is h he, kt_is h he, if_neg (by simp), if_neg (by simp), if_pos h1, h2]
  refine ⟨_, rfl, ?_⟩
  have := dig_val ⟨n, hn⟩
  simp only at this
  rw [this]
  rfl
theorem which_no {s : PS} {x : Int × List UInt8} {r : List (Int × List UInt8)} (h : ktL (L.drop s.i) = x :: r) (he : s.e = 0) : ∀ ops : List (List UInt8 × Int), (∀ o ∈ ops, ¬ x.2 = o.1) → whichT L s ops = none
  | [], _ => rfl
  | (t, k) :: o, hx => by
    unfold whichT
    have h1 : (x.2 == t) = false := beq_eq_false_iff_ne.2 (hx (t, k) (by simp))
    rw [kt_is h he, h1, Bool.and_false, if_neg (by simp)]
    exact which_no h he o fun o ho => hx o (by simp [ho])
theorem op_stop {s : PS} {U : EX} {ops : List (List UInt8 × Int)} (he : s.e = 0) (hw : whichT L s ops = none) (q : Nat) (l : List Nd) : opLoop L ops U (q + 1) s l = (l, s) := by
  unfold opLoop
  rw [if_neg (by rw [he]; simp), hw]
theorem op_more {s : PS} {U : EX} {ops : List (List UInt8 × Int)} {k : Int} (he : s.e = 0) (hw : whichT L s ops = some k) (q : Nat) (l : List Nd) : opLoop L ops U (q + 1) s l = opLoop L ops U q (U s.go l).2 (twoT (U s.go l).1 ((l.length : Int) - 1) k (curT L s).pos) := by
  rw [opLoop, if_neg (by rw [he]; simp), hw]
theorem tail_no {s : PS} {l : List Nat} (h : ktL (L.drop s.i) = tailL l) (he : s.e = 0) : whichT L s mulOps = none := by
  cases l with
  | nil => exact which_no h he _ (by decide)
  | cons m l => exact which_no h he _ (by decide)
/-- A number alone. -/
theorem term_one {s : PS} {n : Nat} {l : List Nat} (h : ktL (L.drop s.i) = toksL n l) (hn : n < 256) (he : s.e = 0) (q N : Nat) (acc : List Nd) : ∃ x, termT L (unaryT L (q + 1)) (N + 1) s acc = (acc ++ [x], s.go) ∧ ez x = numN n := by
  obtain ⟨x, h1, h2⟩ := unary_num h hn he q acc
  obtain ⟨_, _, h3⟩ := kt_cur h
  refine ⟨x, ?_, h2⟩
  unfold termT opT
  simp only
  rw [h1]
  exact op_stop (s := s.go) he (tail_no h3 he) _ _
def mulN (a : Int) : Nd := ⟨7, 0, [], [], a, a + 1, 0⟩
def addN (a : Int) : Nd := ⟨5, 0, [], [], a, a + 3, 0⟩
/-- Two times a number. -/
theorem term_two {s : PS} {m : Nat} {l : List Nat} (h : ktL (L.drop s.i) = (2, [50]) :: (4, [42]) :: toksL m l) (hm : m < 256) (he : s.e = 0) (q N : Nat) (acc : List Nd) : ∃ x y z, termT L (unaryT L (q + 1)) (N + 2) s acc = (acc ++ [x, y, z], s.go.go.go) ∧ ez x = numN 2 ∧ ez y = numN m ∧ ez z = mulN acc.length := by
  obtain ⟨x, h1, h2⟩ := unary_num (n := 2) h (by decide) he q acc
  obtain ⟨_, _, h3⟩ := kt_cur h
  obtain ⟨_, _, h4⟩ := kt_cur (s := s.go) h3
  obtain ⟨y, h5, h6⟩ := unary_num (s := s.go.go) h4 hm he q (acc ++ [x])
  obtain ⟨_, _, h7⟩ := kt_cur (s := s.go.go) h4
  have hw : whichT L s.go mulOps = some 7 := by
    unfold mulOps whichT
    rw [kt_is (s := s.go) h3 he, if_pos (by decide)]
  refine ⟨x, y, ndK 7 (((acc ++ [x]).length : Int) - 1) (((acc ++ [x] ++ [y]).length : Int) - 1) (curT L s.go).pos, ?_, h2, h6, ?_⟩
  · unfold termT opT
    simp only
    rw [h1]
    simp only
    rw [op_more (s := s.go) he hw, h5]
    rw [op_stop (s := s.go.go.go) he (tail_no h7 he)]
    unfold twoT
    rw [List.append_assoc, List.append_assoc]
    rfl
  · unfold ez ndK mulN
    simp
    omega
/-- Nodes of the sum. -/
def sumN : List Nd → List Nat → List Nd
  | A, [] => A
  | A, m :: l => sumN (A ++ [numN 2, numN m, mulN A.length, addN ((A.length : Int) - 1)]) l
def PS.plus (s : PS) (k : Nat) : PS := { s with i := s.i + k }
theorem sum_loop (q N : Nat) : ∀ (l : List Nat) (F : Nat) (s : PS) (acc : List Nd), (∀ m ∈ l, m < 256) → s.e = 0 → ktL (L.drop s.i) = tailL l → l.length < F → ∃ r, opLoop L addOps (termT L (unaryT L (q + 1)) (N + 2)) F s acc = (r, s.plus (4 * l.length)) ∧ r.map ez = sumN (acc.map ez) l
  | [], F, s, acc, _, he, h, hF => by
    obtain ⟨F, rfl⟩ : ∃ f, F = f + 1 := ⟨F - 1, by simp at hF; omega⟩
    exact ⟨acc, op_stop he (which_no h he _ (by decide)) _ _, rfl⟩
  | m :: l, F, s, acc, hl, he, h, hF => by
    obtain ⟨F, rfl⟩ : ∃ f, F = f + 1 := ⟨F - 1, by simp at hF; omega⟩
    simp only [List.length_cons] at hF
    obtain ⟨_, _, h3⟩ := kt_cur h
    have hw : whichT L s addOps = some 5 := by
      unfold addOps whichT
      rw [kt_is h he, if_pos (by decide)]
    obtain ⟨x, y, z, e1, e2, e3, e4⟩ := term_two (s := s.go) (l := l) h3 (hl m (by simp)) he q N acc
    obtain ⟨_, _, h4⟩ := kt_cur (s := s.go) h3
    obtain ⟨_, _, h5⟩ := kt_cur (s := s.go.go) h4
    obtain ⟨_, _, h6⟩ := kt_cur (s := s.go.go.go) h5
    rw [op_more he hw, e1]
    obtain ⟨r, f1, f2⟩ := sum_loop q N l F s.go.go.go.go _ (fun x hx => hl x (by simp [hx])) he h6 (by omega)
    refine ⟨r, ?_, ?_⟩
    · rw [f1]
      congr 1
      show PS.mk _ _ _ _ = PS.mk _ _ _ _
      congr 1
      show s.i + 1 + 1 + 1 + 1 + 4 * l.length = s.i + 4 * (l.length + 1)
      omega
    · rw [f2]
      show _ = sumN (acc.map ez ++ [numN 2, numN m, mulN (acc.map ez).length, addN (((acc.map ez).length : Int) - 1)]) l
      congr 1
      unfold twoT
      simp only [List.map_append, List.map_cons, List.map_nil, e2, e3, e4, List.length_map, List.append_assoc, List.cons_append, List.nil_append]
      congr 4
      unfold ez ndK addN
      simp
      omega
/-- The whole expression. -/
theorem expr_left {s : PS} {n : Nat} {l : List Nat} (hn : n < 256) (hl : ∀ m ∈ l, m < 256) (he : s.e = 0) (h : ktL (L.drop s.i) = toksL n l) (hF : l.length + 1 < L.length) : ∃ r, exprN L s = (r, s.plus (4 * l.length + 1)) ∧ r.map ez = sumN [numN n] l := by
  obtain ⟨M, hM⟩ : ∃ M, L.length = M + 1 := ⟨L.length - 1, by omega⟩
  obtain ⟨x, h1, h2⟩ := term_one h hn he (M + 1) (M + 1) []
  obtain ⟨_, _, h3⟩ := kt_cur h
  obtain ⟨r, f1, f2⟩ := sum_loop (M + 1) M l (M + 2) s.go ([] ++ [x]) hl he h3 (by omega)
  refine ⟨r, ?_, ?_⟩
  · unfold exprN exprT
    simp only
    have e : sumT L (unaryT L (L.length + 1)) (L.length + 1) s [] = (r, s.plus (4 * l.length + 1)) := by
      rw [hM]
      unfold sumT opT
      simp only
      rw [h1]
      simp only
      rw [f1]
      congr 1
      show PS.mk _ _ _ _ = PS.mk _ _ _ _
      congr 1
      show s.i + 1 + 4 * l.length = s.i + (4 * l.length + 1)
      omega
    rw [e]
    simp only
    have ht : ∀ (l : List Nat) (s : PS), ktL (L.drop s.i) = tailL l → ktL (L.drop (s.i + 4 * l.length)) = tailL [] := by
      intro l
      induction l with
      | nil => exact fun s h => h
      | cons m l ih =>
        intro s h
        obtain ⟨_, _, a1⟩ := kt_cur h
        obtain ⟨_, _, a2⟩ := kt_cur (s := s.go) a1
        obtain ⟨_, _, a3⟩ := kt_cur (s := s.go.go) a2
        obtain ⟨_, _, a4⟩ := kt_cur (s := s.go.go.go) a3
        have := ih s.go.go.go.go a4
        rw [show s.i + 4 * (m :: l).length = s.go.go.go.go.i + 4 * l.length by
          show s.i + 4 * (l.length + 1) = s.i + 1 + 1 + 1 + 1 + 4 * l.length
          omega]
        exact this
    have h4 := ht l s.go h3
    rw [which_no (s := s.plus (4 * l.length + 1)) (x := (4, [59])) (r := [(4, [125]), (0, [])]) (by
      rw [show (s.plus (4 * l.length + 1)).i = s.go.i + 4 * l.length by
        show s.i + (4 * l.length + 1) = s.i + 1 + 4 * l.length
        omega]
      exact h4) he _ (by decide)]
  · rw [f2, List.nil_append, List.map_cons, List.map_nil, h2]
theorem name_yes {s : PS} {d : List UInt8} {r : List (Int × List UInt8)} (h : ktL (L.drop s.i) = (1, d) :: r) (he : s.e = 0) : nameT L s = (d, s.go) := by
  obtain ⟨h1, h2, _⟩ := kt_cur h
  unfold nameT
  rw [if_neg (by rw [h1, he]; simp), h2]
theorem want_yes {s : PS} {x : Int × List UInt8} {t : List UInt8} {r : List (Int × List UInt8)} (h : ktL (L.drop s.i) = x :: r) (he : s.e = 0) (hx : ((x.1 == 4 || x.1 == 3) && x.2 == t) = true) : wantT L s t = s.go := by
  unfold wantT
  rw [kt_is h he, hx, if_pos rfl]
theorem left_stmt {n : Nat} {l : List Nat} (hn : n < 256) (hl : ∀ m ∈ l, m < 256) (hk : ktL L = preK ++ toksL n l) (hF : l.length + 1 < L.length) (q : Nat) : ∃ r h, stmtT L (q + 1) ⟨13, 1, 0, 0⟩ = (.mk h [] [], ⟨15 + (4 * l.length + 1) + 1, 1, 0, 0⟩) ∧ h.e = r ∧ r.map ez = sumN [numN n] l ∧ ktL (L.drop (15 + (4 * l.length + 1) + 1)) = [(4, [125]), (0, [])] := by
  have hd : ∀ j, ktL (L.drop j) = (preK ++ toksL n l).drop j := fun j => by
    rw [← hk]
    unfold ktL
    rw [List.map_drop]
  obtain ⟨r, e1, e2⟩ := expr_left (s := ⟨15, 1, 0, 0⟩) hn hl rfl (hd 15) hF
  have he : ktL (L.drop (15 + (4 * l.length + 1))) = tailL [] := by
    rw [hd]
    have : ∀ (l : List Nat) (k : Nat), (tailL l).drop (4 * l.length) = tailL [] := by
      intro l
      induction l with
      | nil => exact fun _ => rfl
      | cons m l ih =>
        intro k
        rw [show 4 * (m :: l).length = 4 + 4 * l.length by simp; omega, ← List.drop_drop]
        exact ih k
    rw [show 15 + (4 * l.length + 1) = 16 + 4 * l.length by omega, ← List.drop_drop]
    exact this l 0
  obtain ⟨_, _, he2⟩ := kt_cur (s := ⟨15 + (4 * l.length + 1), 1, 0, 0⟩) he
  have h13 := hd 13
  obtain ⟨k1, _, _⟩ := kt_cur (s := ⟨13, 1, 0, 0⟩) h13
  refine ⟨r, { sh0 (curT L ⟨13, 1, 0, 0⟩).pos with kind := 3, e := r }, ?_, rfl, e2, he2⟩
  · unfold stmtT
    simp only
    rw [if_neg (by rw [k1]; decide), kt_is (s := ⟨13, 1, 0, 0⟩) h13 rfl, if_neg (by decide), kt_is (s := ⟨13, 1, 0, 0⟩) h13 rfl, if_pos (by decide)]
    unfold endT resultT
    simp only
    rw [want_yes (s := PS.go ⟨13, 1, 0, 0⟩) (hd 14) rfl (by decide)]
    have e1' : exprN L (PS.go (PS.go ⟨13, 1, 0, 0⟩)) = (r, PS.plus ⟨15, 1, 0, 0⟩ (4 * l.length + 1)) := e1
    rw [e1', want_yes (s := PS.plus ⟨15, 1, 0, 0⟩ (4 * l.length + 1)) he rfl (by decide)]
    rfl
theorem is_at {s : PS} {x : Int × List UInt8} {r : List (Int × List UInt8)} {t : List UInt8} (h : ktL (L.drop s.i) = x :: r) (he : s.e = 0) (b : Bool) (hb : ((x.1 == 4 || x.1 == 3) && x.2 == t) = b) : isT L s t = b := by rw [kt_is h he, hb]
theorem left_proc {n : Nat} {l : List Nat} (hn : n < 256) (hl : ∀ m ∈ l, m < 256) (hk : ktL L = preK ++ toksL n l) (hF : l.length + 2 < L.length) : ∃ p h, procT L ⟨4, 0, 0, 0⟩ = (p, ⟨15 + (4 * l.length + 1) + 2, 0, 0, 0⟩) ∧ p.body = [.mk h [] []] ∧ h.e.map ez = sumN [numN n] l ∧ ktL (L.drop (15 + (4 * l.length + 1) + 2)) = [(0, [])] := by
  have hd : ∀ j, ktL (L.drop j) = (preK ++ toksL n l).drop j := fun j => by
    rw [← hk]
    unfold ktL
    rw [List.map_drop]
  obtain ⟨M, hM⟩ : ∃ M, L.length = M + 2 := ⟨L.length - 2, by omega⟩
  obtain ⟨r, h, e1, e2, e3, e4⟩ := left_stmt hn hl hk (by omega) (M + 1 + 1)
  obtain ⟨_, _, e5⟩ := kt_cur (s := ⟨15 + (4 * l.length + 1) + 1, 1, 0, 0⟩) e4
  have hb : blockN L ⟨12, 0, 0, 0⟩ = ([.mk h [] []], ⟨15 + (4 * l.length + 1) + 2, 0, 0, 0⟩) := by
    unfold blockN blockT
    simp only
    have ho : openT L ⟨12, 0, 0, 0⟩ [123] = ⟨13, 1, 0, 0⟩ := by
      unfold openT
      simp only
      rw [if_neg (by simp), want_yes (s := ⟨12, 0, 0, 0⟩) (hd 12) rfl (by decide)]
      rfl
    rw [ho, hM]
    have hs : stmLoop L (stmtT L (M + 2 + 1)) (M + 2 + 1) ⟨13, 1, 0, 0⟩ [] = ([.mk h [] []], ⟨15 + (4 * l.length + 1) + 1, 1, 0, 0⟩) := by
      rw [stmLoop, is_at (s := ⟨13, 1, 0, 0⟩) (t := [125]) (hd 13) rfl false (by decide), if_neg (by simp)]
      simp only
      rw [e1]
      simp only
      rw [stmLoop, is_at (s := ⟨15 + (4 * l.length + 1) + 1, 1, 0, 0⟩) (t := [125]) e4 rfl true (by decide), if_pos (by simp)]
      rfl
    rw [hs]
    simp only
    rw [want_yes (s := ⟨15 + (4 * l.length + 1) + 1, 1, 0, 0⟩) e4 rfl (by decide)]
    rfl
  have q1 : listT L (paramT L) ⟨6, 0, 0, 0⟩ [41] = ([], ⟨7, 0, 0, 0⟩) := by
    unfold listT
    simp only
    rw [is_at (s := ⟨6, 0, 0, 0⟩) (t := [41]) (hd 6) rfl true (by decide), if_pos rfl]
    simp only
    rw [want_yes (s := ⟨6, 0, 0, 0⟩) (hd 6) rfl (by decide)]
    rfl
  have q2 : listT L (nameT L) ⟨11, 0, 0, 0⟩ [125] = ([], ⟨12, 0, 0, 0⟩) := by
    unfold listT
    simp only
    rw [is_at (s := ⟨11, 0, 0, 0⟩) (t := [125]) (hd 11) rfl true (by decide), if_pos rfl]
    simp only
    rw [want_yes (s := ⟨11, 0, 0, 0⟩) (hd 11) rfl (by decide)]
    rfl
  have w1 : nameT L ⟨4, 0, 0, 0⟩ = ([112], ⟨5, 0, 0, 0⟩) := name_yes (s := ⟨4, 0, 0, 0⟩) (hd 4) rfl
  have w2 : wantT L ⟨5, 0, 0, 0⟩ [40] = ⟨6, 0, 0, 0⟩ := want_yes (s := ⟨5, 0, 0, 0⟩) (hd 5) rfl (by decide)
  have w3 : isT L ⟨7, 0, 0, 0⟩ [45, 62] = false := is_at (s := ⟨7, 0, 0, 0⟩) (hd 7) rfl false (by decide)
  have w4 : wantT L ⟨7, 0, 0, 0⟩ kPc = ⟨8, 0, 0, 0⟩ := want_yes (s := ⟨7, 0, 0, 0⟩) (hd 7) rfl (by decide)
  have w5 : nameT L ⟨8, 0, 0, 0⟩ = ([97], ⟨9, 0, 0, 0⟩) := name_yes (s := ⟨8, 0, 0, 0⟩) (hd 8) rfl
  have w6 : wantT L ⟨9, 0, 0, 0⟩ kUses = ⟨10, 0, 0, 0⟩ := want_yes (s := ⟨9, 0, 0, 0⟩) (hd 9) rfl (by decide)
  have w7 : wantT L ⟨10, 0, 0, 0⟩ [123] = ⟨11, 0, 0, 0⟩ := want_yes (s := ⟨10, 0, 0, 0⟩) (hd 10) rfl (by decide)
  refine ⟨⟨[112], [], false, [], [97], [], [.mk h [] []], (curT L ⟨4, 0, 0, 0⟩).pos⟩, h, ?_, rfl, by rw [e2]; exact e3, e5⟩
  unfold procT
  simp only [w1, w2, q1, w3, w4, w5, w6, w7, q2, hb, Bool.false_eq_true, if_false]
/-- What the parser tells of the whole. -/
theorem left_module {n : Nat} {l : List Nat} (hn : n < 256) (hl : ∀ m ∈ l, m < 256) (hk : ktL L = preK ++ toksL n l) (hF : l.length + 2 < L.length) : ∃ m p h, moduleT L ps0 = (m, ⟨15 + (4 * l.length + 1) + 2, 0, 0, 0⟩) ∧ m.procs = [p] ∧ p.body = [.mk h [] []] ∧ h.e.map ez = sumN [numN n] l := by
  have hd : ∀ j, ktL (L.drop j) = (preK ++ toksL n l).drop j := fun j => by
    rw [← hk]
    unfold ktL
    rw [List.map_drop]
  obtain ⟨M, hM⟩ : ∃ M, L.length = M + 2 := ⟨L.length - 2, by omega⟩
  obtain ⟨p, h, e1, e2, e3, e4⟩ := left_proc hn hl hk hF
  obtain ⟨k0, _, _⟩ := kt_cur (s := ⟨15 + (4 * l.length + 1) + 2, 0, 0, 0⟩) e4
  obtain ⟨k3, _, _⟩ := kt_cur (s := ⟨3, 0, 0, 0⟩) (hd 3)
  have w1 : wantT L ps0 kModule = ⟨1, 0, 0, 0⟩ := want_yes (s := ps0) (hd 0) rfl (by decide)
  have w2 : nameT L ⟨1, 0, 0, 0⟩ = ([109], ⟨2, 0, 0, 0⟩) := name_yes (s := ⟨1, 0, 0, 0⟩) (hd 1) rfl
  have w3 : wantT L ⟨2, 0, 0, 0⟩ [59] = ⟨3, 0, 0, 0⟩ := want_yes (s := ⟨2, 0, 0, 0⟩) (hd 2) rfl (by decide)
  have w4 : impLoop L (L.length + 1) ⟨3, 0, 0, 0⟩ [] = ([], ⟨3, 0, 0, 0⟩) := by
    rw [impLoop, is_at (s := ⟨3, 0, 0, 0⟩) (t := kImport) (hd 3) rfl false (by decide), if_neg (by simp)]
  have w5 : declLoop L (L.length + 1) ⟨3, 0, 0, 0⟩ [] [] = (([], [p]), ⟨15 + (4 * l.length + 1) + 2, 0, 0, 0⟩) := by
    rw [hM, declLoop, if_neg (by rw [k3]; decide), is_at (s := ⟨3, 0, 0, 0⟩) (t := kVar) (hd 3) rfl false (by decide), if_neg (by simp), is_at (s := ⟨3, 0, 0, 0⟩) (t := kProc) (hd 3) rfl true (by decide), if_pos rfl]
    show declLoop L (M + 2) (procT L ⟨4, 0, 0, 0⟩).2 [] ([] ++ [(procT L ⟨4, 0, 0, 0⟩).1]) = _
    rw [e1, declLoop, if_pos (.inr k0)]
    rfl
  refine ⟨⟨[109], (curT L ⟨1, 0, 0, 0⟩).pos, [], [], [p]⟩, p, h, ?_, rfl, e2, e3⟩
  unfold moduleT
  simp only [w1, w2, w3, w4, w5]
end
theorem kt_len (L : List Tk) : (ktL L).length = L.length := by
  unfold ktL
  rw [List.length_map]
theorem tail_len : ∀ l : List Nat, (tailL l).length = 4 * l.length + 3
  | [] => rfl
  | m :: l => by
    show (tailL l).length + 1 + 1 + 1 + 1 = _
    rw [tail_len l, List.length_cons]
    omega
theorem sumL_len : ∀ (l : List Nat) (n : Nat), (sumL n l).length ≤ 6 + 10 * l.length
  | [], n => by
    have := (dig_len n).1
    unfold sumL
    simp only [List.length_append, List.length_cons, List.length_nil]
    omega
  | m :: l, n => by
    have h1 := (dig_len n).1
    have h2 := sumL_len l m
    show (chunkL n ++ 32 :: sumL m l).length ≤ _
    unfold chunkL
    simp only [List.length_append, List.length_cons, List.length_nil]
    omega
/-- What Module tells of it. -/
theorem left_told (l : List Nat) (n : Nat) (hn : n < 256) (hl : ∀ m ∈ l, m < 256) (h60 : l.length ≤ 60) : ∃ m p h, parseP (leftT n l) = (m, 0, 0) ∧ m.procs = [p] ∧ p.body = [.mk h [] []] ∧ h.e.map ez = sumN [numN n] l := by
  obtain ⟨h1, h2⟩ := left_lex l n hn hl
  have hlen : (leftT n l).length ≤ 8192 := by
    have := sumL_len l n
    unfold leftT
    rw [List.length_append, List.length_cons, show preL.length = 42 from rfl]
    omega
  have hp : lexP (leftT n l) = lexA 0 (leftT n l) := if_neg (by omega)
  have hF : l.length + 2 < (lexA 0 (leftT n l)).l.length := by
    have h3 := congrArg List.length h2
    rw [kt_len, List.length_append, show preK.length = 15 from rfl] at h3
    unfold toksL at h3
    rw [List.length_cons, tail_len] at h3
    omega
  obtain ⟨m, p, h, e1, e2, e3, e4⟩ := left_module hn hl h2 hF
  refine ⟨m, p, h, ?_, e2, e3, e4⟩
  unfold parseP
  rw [hp, if_neg (by rw [h1]; simp)]
  simp only
  rw [e1, if_neg (by simp)]

end Go.Proofs.YtlgfijjkbomejaaGreatDoor
