/- The reference's lexer: blanks, remarks. Numbers and types by name. -/
import Derived.Test.YtejaikpnfhhmnaaDoorPam
import Derived.Deep.Cut
import Derived.Deep.CutBlock
import Derived.Deep.CutRange
/- The reference's lexer: its loop's body, and what holds between two tokens. Numbers and types by name. -/
namespace Go.Proofs.YtejaikpnfhhmnaaDoor
open Go.RowKit Go.Lib
set_option maxRecDepth 100000

/-- What a lexer leaves. -/
def LexTold (w : World) (R : LexR) (e : Ending) (w' : World) : Prop :=
  ∃ ao n c, e = .returned (.tuple #[.slice ao n c, .int .i64 R.e, .int .i64 (R.pos : Int)]) ∧ Tkr w' (.slice ao n c) n R.l ∧ Below w.heap.size w w'

theorem runL_at (p : UInt8 → Bool) (q : List UInt8) : (∀ j, j < runL p q → ∃ d, q[j]? = some d ∧ p d = true) ∧ (q.length = runL p q ∨ ∃ d, q[runL p q]? = some d ∧ p d = false) := by
  have hle := runL_le p q
  obtain ⟨h1, h2⟩ := runL_take p q
  refine ⟨fun j hj => ?_, ?_⟩
  · have hx : q[j]? = some (q[j]'(by omega)) := List.getElem?_eq_getElem (by omega)
    refine ⟨_, hx, h1 _ ?_⟩
    rw [List.mem_take_iff_getElem]
    exact ⟨j, by omega, rfl⟩
  · rcases h2 with h2 | ⟨c, l, h2, h3⟩
    · left
      have := congrArg List.length h2
      simp only [List.length_drop, List.length_nil] at this
      omega
    · right
      refine ⟨c, ?_, h3⟩
      have : (q.drop (runL p q))[0]? = some c := by rw [h2]; rfl
      rwa [List.getElem?_drop, Nat.add_zero] at this
theorem spc_int (c : UInt8) : isSpc c = (((c.toNat : Int) == 32) || ((c.toNat : Int) == 9) || ((c.toNat : Int) == 10) || ((c.toNat : Int) == 13)) := by
  have e : ∀ d : UInt8, (c == d) = ((c.toNat : Int) == (d.toNat : Int)) := fun d => by
    rw [Bool.eq_iff_iff, beq_iff_eq, beq_iff_eq, ← UInt8.toNat_inj]
    omega
  unfold isSpc
  simp only [e]
  rfl
theorem ne_int {c d : UInt8} (h : c ≠ d) : ((c.toNat : Int) == (d.toNat : Int)) = false := by
  rw [beq_eq_false_iff_ne]
  intro h'
  exact h (UInt8.toNat_inj.1 (by omega))
theorem us_one (d : UInt8) : (isLet d || d == 95) = (isLet d || ((d.toNat : Int) == 95)) := by
  have e : (d == 95) = ((d.toNat : Int) == 95) := by
    rw [Bool.eq_iff_iff, beq_iff_eq, beq_iff_eq, ← UInt8.toNat_inj]
    have : (95 : UInt8).toNat = 95 := rfl
    omega
  rw [e]
theorem us_int (d : UInt8) : isWrd d = (isLet d || isDig d || ((d.toNat : Int) == 95)) := by
  have e : (d == 95) = ((d.toNat : Int) == 95) := by
    rw [Bool.eq_iff_iff, beq_iff_eq, beq_iff_eq, ← UInt8.toNat_inj]
    have : (95 : UInt8).toNat = 95 := rfl
    omega
  unfold isWrd
  rw [e]

/-- Between two tokens. -/
def LexAt (w wr : World) (l : List UInt8) (R : LexR) (k : Nat) (v : Value) (n : Nat) : Prop :=
  ∃ acc, OwnT wr w.heap.size v n acc ∧ Below w.heap.size w wr ∧ appL acc (lexA k (l.drop k)) = R ∧ acc.length ≤ k
theorem LexAt.skip {w wr : World} {l : List UInt8} {R : LexR} {k n : Nat} {v : Value} {c : UInt8} {r : List UInt8} {m : Nat} (h : LexAt w wr l R k v n) (hd : l.drop k = c :: r) (hs : stepL (c :: r) = .skip m) : LexAt w wr l R (k + m) v n := by
  obtain ⟨acc, h1, h2, h3, h4⟩ := h
  rw [hd, lexA_skip hs, ← hd, List.drop_drop] at h3
  exact ⟨acc, h1, h2, h3, by omega⟩

theorem LexAt.tok {w wr w6 : World} {l : List UInt8} {R : LexR} {k n N : Nat} {v v6 : Value} {c : UInt8} {r : List UInt8} {q : Int} {acc : List Tk} (h : OwnT wr w.heap.size v n acc ∧ Below w.heap.size w wr ∧ appL acc (lexA k (l.drop k)) = R ∧ acc.length ≤ k) (hd : l.drop k = c :: r) (hs : stepL (c :: r) = .tok q N)
    (ho : w6.ownsRow w.heap.size 96 3 v6 (n + 1) (tvs acc ++ tv ⟨q, (c :: r).take N, k⟩)) {o : Obj} (hb : Below w.heap.size (wr.alloc o) w6) : LexAt w w6 l R (k + N) v6 (n + 1) := by
  obtain ⟨h1, h2, h3, h4⟩ := h
  have hN := (stepL_n (c := c) (r := r)).2 q N hs
  refine ⟨acc ++ [⟨q, (c :: r).take N, k⟩], ⟨by rw [List.length_append, ← h1.1]; rfl, ?_⟩, (h2.alloc h2.size o).trans hb, ?_, by rw [List.length_append, List.length_singleton]; omega⟩
  · rw [tvs_snoc]
    exact ho
  · rw [appL_cons, ← List.drop_drop, hd, ← lexA_tok hs, ← hd]
    exact h3
theorem LexAt.bad {w wr : World} {l : List UInt8} {R : LexR} {k n : Nat} {v : Value} {c : UInt8} {r : List UInt8} {e : Int} (h : LexAt w wr l R k v n) (hd : l.drop k = c :: r) (hs : stepL (c :: r) = .bad e) : R = ⟨[], e, k⟩ ∧ Below w.heap.size w wr := by
  obtain ⟨acc, h1, h2, h3, h4⟩ := h
  rw [hd, lexA_bad hs] at h3
  refine ⟨h3.symm.trans ?_, h2⟩
  unfold appL
  rw [if_neg]
  rcases stepL_bad hs with rfl | rfl <;> simp
/-- The first loop of a function's body. -/
def firstLoop : Code → Option Code
  | .loop c => some c
  | .seq a b => match firstLoop a with
    | some c => some c
    | none => firstLoop b
  | .block _ c => firstLoop c
  | .scope c => firstLoop c
  | .cond _ a b => match firstLoop a with
    | some c => some c
    | none => firstLoop b
  | _ => none
noncomputable def lexBody : Code := ((Tryd.f55.body.bind firstLoop).getD .skip)

end Go.Proofs.YtejaikpnfhhmnaaDoor

namespace Go.Proofs.YtejaikpnfhhmnaaDoor
open Go.RowKit Go.Lib
set_option maxRecDepth 100000

set_option maxRecDepth 1000000 in
set_option maxHeartbeats 4000000 in
theorem lexr_blank (l : List UInt8) (w wr : World) (R : LexR) (K : Act → World → Prop) (hbig : ¬ 8192 < l.length) (n c0 k : Nat) (ao : Option Addr) (hk : k ≤ l.length) (hG : Hid (LexAt w wr l R k (.slice ao n c0) n)) (hlt : k < l.length) (c : UInt8) (r : List UInt8) (hd : l.drop k = c :: r) (s1 : isSpc c = true)
    (u2 u3 u4 u7 u8 u9 u10 u11 u15 u16 u17 u18 u19 u20 u21 u22 u23 u24 u25 u26 u27 u28 u29 u30 u31 u32 u33 u34 u35 u36 u37 u38 u39 u40 u41 u42 u43 u44 u45 u46 u47 u48 u49 u50 u51 u52 u53 u54 u55 u56 u57 u58 u59 u60 u61 u62 u63 u64 u65 u66 u67 u68 u69 u70 u71 u72 u73 u74 u75 u76 u77 u78 u79 u80 u81 u82 u83 u84 u85 u86 u87 u88 u89 u90 u91 u92 u93 u94 u95 u96 u97 u98 u99 u100 u101 u102 u103 u104 u105 u106 u107 u108 u109 u110 u111 u112 u113 u114 u115 u116 u117 u118 u119 u120 u121 u122 u123 u124 u125 u126 u127 u128 u129 u130 u131 u132 u133 u134 u135 u136 u137 u138 u139 u140 u141 u142 u143 u144 u145 u146 u147 u148 u149 u150 u151 u152 u153 u154 u155 u156 u157 u158 u159 u160 u161 u162 u163 u164 u165 u166 u167 u168 u169 u170 u171 u172 u173 u174 u175 u176 : Value) : Code.wp Tryd.prog lexBody (Exit.then (fun a' w' => (∃ u2 u3 u4 u5 u6 u7 u8 u9 u10 u11 u15 u16 u17 u18 u19 u20 u21 u22 u23 u24 u25 u26 u27 u28 u29 u30 u31 u32 u33 u34 u35 u36 u37 u38 u39 u40 u41 u42 u43 u44 u45 u46 u47 u48 u49 u50 u51 u52 u53 u54 u55 u56 u57 u58 u59 u60 u61 u62 u63 u64 u65 u66 u67 u68 u69 u70 u71 u72 u73 u74 u75 u76 u77 u78 u79 u80 u81 u82 u83 u84 u85 u86 u87 u88 u89 u90 u91 u92 u93 u94 u95 u96 u97 u98 u99 u100 u101 u102 u103 u104 u105 u106 u107 u108 u109 u110 u111 u112 u113 u114 u115 u116 u117 u118 u119 u120 u121 u122 u123 u124 u125 u126 u127 u128 u129 u130 u131 u132 u133 u134 u135 u136 u137 u138 u139 u140 u141 u142 u143 u144 u145 u146 u147 u148 u149 u150 u151 u152 u153 u154 u155 u156 u157 u158 u159 u160 u161 u162 u163 u164 u165 u166 u167 u168 u169 u170 u171 u172 u173 u174 u175 u176 : Value, (∃ (n c k : Nat) (ao : Option Addr), k ≤ l.length ∧ u6 = .int .i64 (k : Int) ∧ u5 = .slice ao n c ∧ Hid (LexAt w w' l R k (.slice ao n c) n)) ∧ a' = ⟨#[.string (tx l), undef, u2, u3, u4, u5, u6, u7, u8, u9, u10, u11, .string (tx l), .int .i64 (l.length : Int), .bool false, u15, u16, u17, u18, u19, u20, u21, u22, u23, u24, u25, u26, u27, u28, u29, u30, u31, u32, u33, u34, u35, u36, u37, u38, u39, u40, u41, u42, u43, u44, u45, u46, u47, u48, u49, u50, u51, u52, u53, u54, u55, u56, u57, u58, u59, u60, u61, u62, u63, u64, u65, u66, u67, u68, u69, u70, u71, u72, u73, u74, u75, u76, u77, u78, u79, u80, u81, u82, u83, u84, u85, u86, u87, u88, u89, u90, u91, u92, u93, u94, u95, u96, u97, u98, u99, u100, u101, u102, u103, u104, u105, u106, u107, u108, u109, u110, u111, u112, u113, u114, u115, u116, u117, u118, u119, u120, u121, u122, u123, u124, u125, u126, u127, u128, u129, u130, u131, u132, u133, u134, u135, u136, u137, u138, u139, u140, u141, u142, u143, u144, u145, u146, u147, u148, u149, u150, u151, u152, u153, u154, u155, u156, u157, u158, u159, u160, u161, u162, u163, u164, u165, u166, u167, u168, u169, u170, u171, u172, u173, u174, u175, u176, undef, undef, undef, undef, undef, undef], []⟩) ∧ l.length - (RowKit.intOf (a'.tmps.getD 6 undef)).toNat < l.length - (RowKit.intOf ((#[.string (tx l), undef, u2, u3, u4, .slice ao n c0, .int .i64 (k : Int), u7, u8, u9, u10, u11, .string (tx l), .int .i64 (l.length : Int), .bool false, u15, u16, u17, u18, u19, u20, u21, u22, u23, u24, u25, u26, u27, u28, u29, u30, u31, u32, u33, u34, u35, u36, u37, u38, u39, u40, u41, u42, u43, u44, u45, u46, u47, u48, u49, u50, u51, u52, u53, u54, u55, u56, u57, u58, u59, u60, u61, u62, u63, u64, u65, u66, u67, u68, u69, u70, u71, u72, u73, u74, u75, u76, u77, u78, u79, u80, u81, u82, u83, u84, u85, u86, u87, u88, u89, u90, u91, u92, u93, u94, u95, u96, u97, u98, u99, u100, u101, u102, u103, u104, u105, u106, u107, u108, u109, u110, u111, u112, u113, u114, u115, u116, u117, u118, u119, u120, u121, u122, u123, u124, u125, u126, u127, u128, u129, u130, u131, u132, u133, u134, u135, u136, u137, u138, u139, u140, u141, u142, u143, u144, u145, u146, u147, u148, u149, u150, u151, u152, u153, u154, u155, u156, u157, u158, u159, u160, u161, u162, u163, u164, u165, u166, u167, u168, u169, u170, u171, u172, u173, u174, u175, u176, undef, undef, undef, undef, undef, undef] : Array Value).getD 6 undef)).toNat) (Exit.inBlock 0 (Exit.then K (bodyPost Tryd.prog Tryd.f55 (LexTold w R))))) ⟨#[.string (tx l), undef, u2, u3, u4, .slice ao n c0, .int .i64 (k : Int), u7, u8, u9, u10, u11, .string (tx l), .int .i64 (l.length : Int), .bool false, u15, u16, u17, u18, u19, u20, u21, u22, u23, u24, u25, u26, u27, u28, u29, u30, u31, u32, u33, u34, u35, u36, u37, u38, u39, u40, u41, u42, u43, u44, u45, u46, u47, u48, u49, u50, u51, u52, u53, u54, u55, u56, u57, u58, u59, u60, u61, u62, u63, u64, u65, u66, u67, u68, u69, u70, u71, u72, u73, u74, u75, u76, u77, u78, u79, u80, u81, u82, u83, u84, u85, u86, u87, u88, u89, u90, u91, u92, u93, u94, u95, u96, u97, u98, u99, u100, u101, u102, u103, u104, u105, u106, u107, u108, u109, u110, u111, u112, u113, u114, u115, u116, u117, u118, u119, u120, u121, u122, u123, u124, u125, u126, u127, u128, u129, u130, u131, u132, u133, u134, u135, u136, u137, u138, u139, u140, u141, u142, u143, u144, u145, u146, u147, u148, u149, u150, u151, u152, u153, u154, u155, u156, u157, u158, u159, u160, u161, u162, u163, u164, u165, u166, u167, u168, u169, u170, u171, u172, u173, u174, u175, u176, undef, undef, undef, undef, undef, undef], []⟩ wr := by
  conv => arg 2; whnf
  have hsz := tx_size l
  have hb : ¬ (8192 : Int) < (l.length : Int) := by omega
  have HL := Lib.hid hbig
  have h3 : (k : Int) < (l.length : Int) := by omega
  obtain ⟨hc, hr, _⟩ := drop_at hd
  have hb1 := tx_at hc (by rw [hsz]; exact hlt)
  have HD := Lib.hid (And.intro hd (And.intro hc hr))
  clear hd hc hr
  have HS := Lib.hid s1
  have HN : Hid (LexAt w wr l R (k + 1) (.slice ao n c0) n) := Lib.hid (hG.out.skip HD.out.1 (if_pos s1))
  clear s1 hG
  go_wp2_with fail
  all_goals first
    | (exfalso
       have := HS.out
       rw [spc_int] at this
       simp_all
       done)
    | exact ⟨⟨n, c0, k + 1, ao, by omega, by go_num, rfl, HN⟩, by simp [RowKit.intOf]; omega⟩

set_option maxRecDepth 1000000 in
set_option maxHeartbeats 4000000 in
theorem lexr_remark (l : List UInt8) (w wr : World) (R : LexR) (K : Act → World → Prop) (hbig : ¬ 8192 < l.length) (n c0 k : Nat) (ao : Option Addr) (hk : k ≤ l.length) (hG : Hid (LexAt w wr l R k (.slice ao n c0) n)) (hlt : k < l.length) (c : UInt8) (r : List UInt8) (hd : l.drop k = c :: r) (s1 : ¬ isSpc c = true) (s2 : c = 35)
    (u2 u3 u4 u7 u8 u9 u10 u11 u15 u16 u17 u18 u19 u20 u21 u22 u23 u24 u25 u26 u27 u28 u29 u30 u31 u32 u33 u34 u35 u36 u37 u38 u39 u40 u41 u42 u43 u44 u45 u46 u47 u48 u49 u50 u51 u52 u53 u54 u55 u56 u57 u58 u59 u60 u61 u62 u63 u64 u65 u66 u67 u68 u69 u70 u71 u72 u73 u74 u75 u76 u77 u78 u79 u80 u81 u82 u83 u84 u85 u86 u87 u88 u89 u90 u91 u92 u93 u94 u95 u96 u97 u98 u99 u100 u101 u102 u103 u104 u105 u106 u107 u108 u109 u110 u111 u112 u113 u114 u115 u116 u117 u118 u119 u120 u121 u122 u123 u124 u125 u126 u127 u128 u129 u130 u131 u132 u133 u134 u135 u136 u137 u138 u139 u140 u141 u142 u143 u144 u145 u146 u147 u148 u149 u150 u151 u152 u153 u154 u155 u156 u157 u158 u159 u160 u161 u162 u163 u164 u165 u166 u167 u168 u169 u170 u171 u172 u173 u174 u175 u176 : Value) : Code.wp Tryd.prog lexBody (Exit.then (fun a' w' => (∃ u2 u3 u4 u5 u6 u7 u8 u9 u10 u11 u15 u16 u17 u18 u19 u20 u21 u22 u23 u24 u25 u26 u27 u28 u29 u30 u31 u32 u33 u34 u35 u36 u37 u38 u39 u40 u41 u42 u43 u44 u45 u46 u47 u48 u49 u50 u51 u52 u53 u54 u55 u56 u57 u58 u59 u60 u61 u62 u63 u64 u65 u66 u67 u68 u69 u70 u71 u72 u73 u74 u75 u76 u77 u78 u79 u80 u81 u82 u83 u84 u85 u86 u87 u88 u89 u90 u91 u92 u93 u94 u95 u96 u97 u98 u99 u100 u101 u102 u103 u104 u105 u106 u107 u108 u109 u110 u111 u112 u113 u114 u115 u116 u117 u118 u119 u120 u121 u122 u123 u124 u125 u126 u127 u128 u129 u130 u131 u132 u133 u134 u135 u136 u137 u138 u139 u140 u141 u142 u143 u144 u145 u146 u147 u148 u149 u150 u151 u152 u153 u154 u155 u156 u157 u158 u159 u160 u161 u162 u163 u164 u165 u166 u167 u168 u169 u170 u171 u172 u173 u174 u175 u176 : Value, (∃ (n c k : Nat) (ao : Option Addr), k ≤ l.length ∧ u6 = .int .i64 (k : Int) ∧ u5 = .slice ao n c ∧ Hid (LexAt w w' l R k (.slice ao n c) n)) ∧ a' = ⟨#[.string (tx l), undef, u2, u3, u4, u5, u6, u7, u8, u9, u10, u11, .string (tx l), .int .i64 (l.length : Int), .bool false, u15, u16, u17, u18, u19, u20, u21, u22, u23, u24, u25, u26, u27, u28, u29, u30, u31, u32, u33, u34, u35, u36, u37, u38, u39, u40, u41, u42, u43, u44, u45, u46, u47, u48, u49, u50, u51, u52, u53, u54, u55, u56, u57, u58, u59, u60, u61, u62, u63, u64, u65, u66, u67, u68, u69, u70, u71, u72, u73, u74, u75, u76, u77, u78, u79, u80, u81, u82, u83, u84, u85, u86, u87, u88, u89, u90, u91, u92, u93, u94, u95, u96, u97, u98, u99, u100, u101, u102, u103, u104, u105, u106, u107, u108, u109, u110, u111, u112, u113, u114, u115, u116, u117, u118, u119, u120, u121, u122, u123, u124, u125, u126, u127, u128, u129, u130, u131, u132, u133, u134, u135, u136, u137, u138, u139, u140, u141, u142, u143, u144, u145, u146, u147, u148, u149, u150, u151, u152, u153, u154, u155, u156, u157, u158, u159, u160, u161, u162, u163, u164, u165, u166, u167, u168, u169, u170, u171, u172, u173, u174, u175, u176, undef, undef, undef, undef, undef, undef], []⟩) ∧ l.length - (RowKit.intOf (a'.tmps.getD 6 undef)).toNat < l.length - (RowKit.intOf ((#[.string (tx l), undef, u2, u3, u4, .slice ao n c0, .int .i64 (k : Int), u7, u8, u9, u10, u11, .string (tx l), .int .i64 (l.length : Int), .bool false, u15, u16, u17, u18, u19, u20, u21, u22, u23, u24, u25, u26, u27, u28, u29, u30, u31, u32, u33, u34, u35, u36, u37, u38, u39, u40, u41, u42, u43, u44, u45, u46, u47, u48, u49, u50, u51, u52, u53, u54, u55, u56, u57, u58, u59, u60, u61, u62, u63, u64, u65, u66, u67, u68, u69, u70, u71, u72, u73, u74, u75, u76, u77, u78, u79, u80, u81, u82, u83, u84, u85, u86, u87, u88, u89, u90, u91, u92, u93, u94, u95, u96, u97, u98, u99, u100, u101, u102, u103, u104, u105, u106, u107, u108, u109, u110, u111, u112, u113, u114, u115, u116, u117, u118, u119, u120, u121, u122, u123, u124, u125, u126, u127, u128, u129, u130, u131, u132, u133, u134, u135, u136, u137, u138, u139, u140, u141, u142, u143, u144, u145, u146, u147, u148, u149, u150, u151, u152, u153, u154, u155, u156, u157, u158, u159, u160, u161, u162, u163, u164, u165, u166, u167, u168, u169, u170, u171, u172, u173, u174, u175, u176, undef, undef, undef, undef, undef, undef] : Array Value).getD 6 undef)).toNat) (Exit.inBlock 0 (Exit.then K (bodyPost Tryd.prog Tryd.f55 (LexTold w R))))) ⟨#[.string (tx l), undef, u2, u3, u4, .slice ao n c0, .int .i64 (k : Int), u7, u8, u9, u10, u11, .string (tx l), .int .i64 (l.length : Int), .bool false, u15, u16, u17, u18, u19, u20, u21, u22, u23, u24, u25, u26, u27, u28, u29, u30, u31, u32, u33, u34, u35, u36, u37, u38, u39, u40, u41, u42, u43, u44, u45, u46, u47, u48, u49, u50, u51, u52, u53, u54, u55, u56, u57, u58, u59, u60, u61, u62, u63, u64, u65, u66, u67, u68, u69, u70, u71, u72, u73, u74, u75, u76, u77, u78, u79, u80, u81, u82, u83, u84, u85, u86, u87, u88, u89, u90, u91, u92, u93, u94, u95, u96, u97, u98, u99, u100, u101, u102, u103, u104, u105, u106, u107, u108, u109, u110, u111, u112, u113, u114, u115, u116, u117, u118, u119, u120, u121, u122, u123, u124, u125, u126, u127, u128, u129, u130, u131, u132, u133, u134, u135, u136, u137, u138, u139, u140, u141, u142, u143, u144, u145, u146, u147, u148, u149, u150, u151, u152, u153, u154, u155, u156, u157, u158, u159, u160, u161, u162, u163, u164, u165, u166, u167, u168, u169, u170, u171, u172, u173, u174, u175, u176, undef, undef, undef, undef, undef, undef], []⟩ wr := by
  conv => arg 2; whnf
  have hsz := tx_size l
  have hb : ¬ (8192 : Int) < (l.length : Int) := by omega
  have HL := Lib.hid hbig
  have h3 : (k : Int) < (l.length : Int) := by omega
  obtain ⟨hc, hr, _⟩ := drop_at hd
  have hb1 := tx_at hc (by rw [hsz]; exact hlt)
  have HD := Lib.hid (And.intro hd (And.intro hc hr))
  clear hd hc hr
  have f1 := spc_int c
  have f0 : isSpc c = false := by simpa using s1
  obtain ⟨N, hN⟩ : ∃ N, N = runL (fun x => x != 10) r := ⟨_, rfl⟩
  have HN : Hid (LexAt w wr l R (k + (1 + N)) (.slice ao n c0) n) := Lib.hid (hG.out.skip HD.out.1 (by rw [hN]; exact (if_neg s1).trans (if_pos s2)))
  have hNr := runL_le (fun x => x != 10) r
  have hrl := congrArg List.length HD.out.2.2
  rw [List.length_drop] at hrl
  have HRN := Lib.hid (runL_at (fun x => x != 10) r)
  rw [← hN] at HRN hNr
  have hkN : k + (1 + N) ≤ l.length := by omega
  have HX := Lib.hid (And.intro hrl hkN)
  subst s2
  clear s1 f1 f0 hG hN hNr hrl hkN
  go_wp2_with fail
  go_loopw [6] (fun i wr2 => ∃ j : Nat, k ≤ j ∧ j ≤ k + (1 + N) ∧ i = .int .i64 j ∧ wr = wr2)
    (fun i _ => l.length - (RowKit.intOf i).toNat)
  case atStart => exact ⟨k, Nat.le_refl _, by omega, rfl, rfl⟩
  case round =>
    obtain ⟨j, hj1, hj2, rfl, rfl⟩ := hrel
    by_cases hj3 : j < k + (1 + N)
    · have h4 : (j : Int) < (l.length : Int) := by have := HX.out.2; omega
      obtain ⟨d, hd, hd2⟩ : ∃ d, l[j]? = some d ∧ d ≠ 10 := by
        by_cases hjk : j = k
        · exact ⟨35, by rw [hjk]; exact HD.out.2.1, by decide⟩
        · obtain ⟨d, h5, h6⟩ := HRN.out.1 (j - (k + 1)) (by omega)
          rw [← HD.out.2.2, List.getElem?_drop, show k + 1 + (j - (k + 1)) = j by omega] at h5
          exact ⟨d, h5, by simpa using h6⟩
      have hb2 := tx_at hd (by rw [hsz]; omega)
      have hd3 : ((d.toNat : Int) == 10) = false := ne_int hd2
      have hd4 : ((d.toNat : Int) != 10) = true := by simp [bne, hd3]
      clear hd hd2
      go_wp2_with fail
      exact ⟨⟨j + 1, by omega, by omega, by go_num, trivial⟩, by simp [RowKit.intOf]; omega⟩
    · obtain rfl : j = k + (1 + N) := by omega
      rcases HRN.out.2 with hq | ⟨d, hq, hq2⟩
      · have h4 : ¬ ((k + (1 + N) : Nat) : Int) < (l.length : Int) := by have := HX.out.1; omega
        go_wp2_with fail
        exact ⟨⟨n, c0, k + (1 + N), ao, HX.out.2, rfl, rfl, HN⟩, by simp [RowKit.intOf]; omega⟩
      · have h4 : ((k + (1 + N) : Nat) : Int) < (l.length : Int) := by
          have := (List.getElem?_eq_some_iff.1 hq).1
          have := HX.out.1
          omega
        rw [← HD.out.2.2, List.getElem?_drop, show k + 1 + N = k + (1 + N) by omega] at hq
        obtain rfl : d = 10 := by simpa using hq2
        have hb2 := tx_at hq (by rw [hsz]; omega)
        clear hq hq2
        go_wp2_with fail
        exact ⟨⟨n, c0, k + (1 + N), ao, HX.out.2, rfl, rfl, HN⟩, by simp [RowKit.intOf]; omega⟩

end Go.Proofs.YtejaikpnfhhmnaaDoor
