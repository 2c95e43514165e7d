/- The reference's lexer: signs. Numbers and types by name. -/
import Derived.Test.YtcefcfipomfpkaaDoorLxa
namespace Go.Proofs.YtcefcfipomfpkaaDoor
open Go.RowKit Go.Lib
set_option maxRecDepth 100000

set_option maxRecDepth 1000000 in
set_option maxHeartbeats 4000000 in
theorem lexr_sign (l : List UInt8) (w wr : World) (R : LexR) (K : Act → World → Prop) (hbig : ¬ 8192 < l.length) (n c0 k : Nat) (ao : Option Addr) (hk : k ≤ l.length) (hG : Hid (LexAt w wr l R k (.slice ao n c0) n)) (hlt : k < l.length) (c : UInt8) (r : List UInt8) (hd : l.drop k = c :: r) (s1 : ¬ isSpc c = true) (s2 : ¬ c = 35) (s3 : ¬ isLet c = true) (s4 : ¬ isDig c = true)
    (u2 u3 u4 u7 u8 u9 u10 u11 u15 u16 u17 u18 u19 u20 u21 u22 u23 u24 u25 u26 u27 u28 u29 u30 u31 u32 u33 u34 u35 u36 u37 u38 u39 u40 u41 u42 u43 u44 u45 u46 u47 u48 u49 u50 u51 u52 u53 u54 u55 u56 u57 u58 u59 u60 u61 u62 u63 u64 u65 u66 u67 u68 u69 u70 u71 u72 u73 u74 u75 u76 u77 u78 u79 u80 u81 u82 u83 u84 u85 u86 u87 u88 u89 u90 u91 u92 u93 u94 u95 u96 u97 u98 u99 u100 u101 u102 u103 u104 u105 u106 u107 u108 u109 u110 u111 u112 u113 u114 u115 u116 u117 u118 u119 u120 u121 u122 u123 u124 u125 u126 u127 u128 u129 u130 u131 u132 u133 u134 u135 u136 u137 u138 u139 u140 u141 u142 u143 u144 u145 u146 u147 u148 u149 u150 u151 u152 u153 u154 u155 u156 u157 u158 u159 u160 u161 u162 u163 u164 u165 u166 u167 u168 u169 u170 u171 u172 u173 u174 u175 u176 : Value) : Code.wp Tryd.prog lexBody (Exit.then (fun a' w' => (∃ u2 u3 u4 u5 u6 u7 u8 u9 u10 u11 u15 u16 u17 u18 u19 u20 u21 u22 u23 u24 u25 u26 u27 u28 u29 u30 u31 u32 u33 u34 u35 u36 u37 u38 u39 u40 u41 u42 u43 u44 u45 u46 u47 u48 u49 u50 u51 u52 u53 u54 u55 u56 u57 u58 u59 u60 u61 u62 u63 u64 u65 u66 u67 u68 u69 u70 u71 u72 u73 u74 u75 u76 u77 u78 u79 u80 u81 u82 u83 u84 u85 u86 u87 u88 u89 u90 u91 u92 u93 u94 u95 u96 u97 u98 u99 u100 u101 u102 u103 u104 u105 u106 u107 u108 u109 u110 u111 u112 u113 u114 u115 u116 u117 u118 u119 u120 u121 u122 u123 u124 u125 u126 u127 u128 u129 u130 u131 u132 u133 u134 u135 u136 u137 u138 u139 u140 u141 u142 u143 u144 u145 u146 u147 u148 u149 u150 u151 u152 u153 u154 u155 u156 u157 u158 u159 u160 u161 u162 u163 u164 u165 u166 u167 u168 u169 u170 u171 u172 u173 u174 u175 u176 : Value, (∃ (n c k : Nat) (ao : Option Addr), k ≤ l.length ∧ u6 = .int .i64 (k : Int) ∧ u5 = .slice ao n c ∧ Hid (LexAt w w' l R k (.slice ao n c) n)) ∧ a' = ⟨#[.string (tx l), undef, u2, u3, u4, u5, u6, u7, u8, u9, u10, u11, .string (tx l), .int .i64 (l.length : Int), .bool false, u15, u16, u17, u18, u19, u20, u21, u22, u23, u24, u25, u26, u27, u28, u29, u30, u31, u32, u33, u34, u35, u36, u37, u38, u39, u40, u41, u42, u43, u44, u45, u46, u47, u48, u49, u50, u51, u52, u53, u54, u55, u56, u57, u58, u59, u60, u61, u62, u63, u64, u65, u66, u67, u68, u69, u70, u71, u72, u73, u74, u75, u76, u77, u78, u79, u80, u81, u82, u83, u84, u85, u86, u87, u88, u89, u90, u91, u92, u93, u94, u95, u96, u97, u98, u99, u100, u101, u102, u103, u104, u105, u106, u107, u108, u109, u110, u111, u112, u113, u114, u115, u116, u117, u118, u119, u120, u121, u122, u123, u124, u125, u126, u127, u128, u129, u130, u131, u132, u133, u134, u135, u136, u137, u138, u139, u140, u141, u142, u143, u144, u145, u146, u147, u148, u149, u150, u151, u152, u153, u154, u155, u156, u157, u158, u159, u160, u161, u162, u163, u164, u165, u166, u167, u168, u169, u170, u171, u172, u173, u174, u175, u176, undef, undef, undef, undef, undef, undef], []⟩) ∧ l.length - (RowKit.intOf (a'.tmps.getD 6 undef)).toNat < l.length - (RowKit.intOf ((#[.string (tx l), undef, u2, u3, u4, .slice ao n c0, .int .i64 (k : Int), u7, u8, u9, u10, u11, .string (tx l), .int .i64 (l.length : Int), .bool false, u15, u16, u17, u18, u19, u20, u21, u22, u23, u24, u25, u26, u27, u28, u29, u30, u31, u32, u33, u34, u35, u36, u37, u38, u39, u40, u41, u42, u43, u44, u45, u46, u47, u48, u49, u50, u51, u52, u53, u54, u55, u56, u57, u58, u59, u60, u61, u62, u63, u64, u65, u66, u67, u68, u69, u70, u71, u72, u73, u74, u75, u76, u77, u78, u79, u80, u81, u82, u83, u84, u85, u86, u87, u88, u89, u90, u91, u92, u93, u94, u95, u96, u97, u98, u99, u100, u101, u102, u103, u104, u105, u106, u107, u108, u109, u110, u111, u112, u113, u114, u115, u116, u117, u118, u119, u120, u121, u122, u123, u124, u125, u126, u127, u128, u129, u130, u131, u132, u133, u134, u135, u136, u137, u138, u139, u140, u141, u142, u143, u144, u145, u146, u147, u148, u149, u150, u151, u152, u153, u154, u155, u156, u157, u158, u159, u160, u161, u162, u163, u164, u165, u166, u167, u168, u169, u170, u171, u172, u173, u174, u175, u176, undef, undef, undef, undef, undef, undef] : Array Value).getD 6 undef)).toNat) (Exit.inBlock 0 (Exit.then K (bodyPost Tryd.prog Tryd.f10 (LexTold w R))))) ⟨#[.string (tx l), undef, u2, u3, u4, .slice ao n c0, .int .i64 (k : Int), u7, u8, u9, u10, u11, .string (tx l), .int .i64 (l.length : Int), .bool false, u15, u16, u17, u18, u19, u20, u21, u22, u23, u24, u25, u26, u27, u28, u29, u30, u31, u32, u33, u34, u35, u36, u37, u38, u39, u40, u41, u42, u43, u44, u45, u46, u47, u48, u49, u50, u51, u52, u53, u54, u55, u56, u57, u58, u59, u60, u61, u62, u63, u64, u65, u66, u67, u68, u69, u70, u71, u72, u73, u74, u75, u76, u77, u78, u79, u80, u81, u82, u83, u84, u85, u86, u87, u88, u89, u90, u91, u92, u93, u94, u95, u96, u97, u98, u99, u100, u101, u102, u103, u104, u105, u106, u107, u108, u109, u110, u111, u112, u113, u114, u115, u116, u117, u118, u119, u120, u121, u122, u123, u124, u125, u126, u127, u128, u129, u130, u131, u132, u133, u134, u135, u136, u137, u138, u139, u140, u141, u142, u143, u144, u145, u146, u147, u148, u149, u150, u151, u152, u153, u154, u155, u156, u157, u158, u159, u160, u161, u162, u163, u164, u165, u166, u167, u168, u169, u170, u171, u172, u173, u174, u175, u176, undef, undef, undef, undef, undef, undef], []⟩ wr := by
  conv => arg 2; whnf
  have hsz := tx_size l
  have hb : ¬ (8192 : Int) < (l.length : Int) := by omega
  have HL := Lib.hid hbig
  have h3 : (k : Int) < (l.length : Int) := by omega
  obtain ⟨hc, hr, _⟩ := drop_at hd
  have hb1 := tx_at hc (by rw [hsz]; exact hlt)
  have HD := Lib.hid (And.intro hd (And.intro hc hr))
  clear hd hc hr
  have f0 := s1
  rw [spc_int] at f0
  simp only [Bool.or_eq_true, not_or, Bool.not_eq_true] at f0
  obtain ⟨⟨⟨f1, f2⟩, f3⟩, f4⟩ := f0
  have f5 : ((c.toNat : Int) == 35) = false := ne_int s2
  have s3f : isLet c = false := by simpa using s3
  have s4f : isDig c = false := by simpa using s4
  obtain ⟨N, hN⟩ : ∃ N, N = signL (c :: r) := ⟨_, rfl⟩
  have hNr := signL_le (c :: r)
  have hrl := congrArg List.length HD.out.2.2
  rw [List.length_drop] at hrl
  have hkN : k + N ≤ l.length := by simp only [List.length_cons] at hNr; omega
  have hS : stepL (c :: r) = if N = 0 then .bad 10 else .tok 4 N := by
    rw [hN]
    exact (if_neg s1).trans ((if_neg s2).trans ((if_neg s3).trans (if_neg s4)))
  have PS := ref_sign l k c r HD.out.1 (by have := HL.out; omega) wr
  rw [← hN] at PS
  obtain ⟨acc, HAcc⟩ := hG.out
  have HA0 := Lib.hid HAcc
  have FL : Hid (n + 1 ≤ 1000000) := Lib.hid (by have := HAcc.1.1; have := HAcc.2.2.2; have := HL.out; omega)
  have HX := Lib.hid (And.intro hrl (And.intro hkN (And.intro hS hN)))
  clear s1 s2 s3 s4 hS hNr hrl hkN hN HAcc
  go_wp2_with (first | (go_at_call 16; refine (ref_letter _ _).mono ?_; rintro e w' ⟨rfl, rfl⟩) | (go_at_call 17; refine (ref_digit _ _).mono ?_; rintro e w' ⟨rfl, rfl⟩))
  refine PS.mono ?_
  rintro e w' ⟨rfl, rfl⟩
  clear PS
  by_cases h0 : N = 0
  · have hq0 : (c :: r).take N = [] := by rw [h0]; rfl
    rw [hq0]
    have ht0 := tx_list []
    obtain ⟨hR9, hb9⟩ := hG.out.bad HD.out.1 (HX.out.2.2.1.trans (if_pos h0))
    have HB9 := Lib.hid (And.intro hR9 hb9)
    clear hR9 hb9 hq0
    go_wp2_with fail
    go_ret3
    rw [HB9.out.1]
    exact ⟨none, 0, 0, rfl, Tkr.nil _, HB9.out.2⟩
  · obtain ⟨Q, hQ⟩ : ∃ Q, Q = (c :: r).take N := ⟨_, rfl⟩
    have ht0 := tx_list Q
    have hQl : (tx Q).size = N := by
      rw [tx_size, hQ, List.length_take]
      have := HX.out.1
      have := HX.out.2.1
      simp only [List.length_cons]
      omega
    have hQn : (Q == []) = false := by
      cases Q with
      | nil => exact absurd hQl (fun h => h0 h.symm)
      | cons _ _ => rfl
    rw [← hQ]
    have HS2 : Hid (stepL (c :: r) = .tok 4 N) := Lib.hid (HX.out.2.2.1.trans (if_neg h0))
    have HQ := Lib.hid hQ
    have hwr := wrap64_id ((k : Int) + (N : Int)) (by have := HL.out; have := HX.out.2.1; omega)
    have HN1 : Hid (1 ≤ N) := Lib.hid (by omega)
    clear hQ h0
    go_wp2_with (at_builtin; go_loud (refine wpList_append_gen elemTok rfl (.tmp 28) (.tmp 32) rfl w.heap.size _ n _ rfl (HA0.out.1.2.alloc _) _ 1 (tv ⟨4, Q, k⟩) rfl (tok_lit _ ⟨4, Q, k⟩) (tv_one _) (n + 1) rfl FL (by decide) (by have := HA0.out.2.1.size; simp; omega) ?_; intro ao6 c6 w6 hown6 hb6 _ _; have HA := Lib.hid (And.intro hown6 hb6); clear hown6 hb6))
    have hk6 : Value.int .i64 (wrap64 ((k : Int) + (N : Int))) = .int .i64 ((k + N : Nat) : Int) := by rw [hwr, Int.natCast_add]
    rw [hk6]
    refine ⟨⟨n + 1, c6, k + N, ao6, HX.out.2.1, rfl, rfl, Lib.hid (LexAt.tok HA0.out HD.out.1 HS2.out ?_ HA.out.2)⟩, by have := HN1.out; have := HX.out.2.1; simp only [RowKit.intOf, Int.toNat_natCast]; omega⟩
    rw [← HQ.out]
    exact HA.out.1

end Go.Proofs.YtcefcfipomfpkaaDoor
