/- THE CODE's lexer: classes of bytes, spans, key words, what a word or a number is. Numbers and types by name. -/
import Derived.Test.YtejaikpnfhhmnaaDoorLxb
import Derived.Test.YtejaikpnfhhmnaaDoorLxc
import Derived.Test.YtejaikpnfhhmnaaDoorLxd
/- The reference's lexer: signs. Numbers and types by name. -/
namespace Go.Proofs.YtejaikpnfhhmnaaDoor
open Go.RowKit Go.Lib
set_option maxRecDepth 100000

set_option maxRecDepth 1000000 in
set_option maxHeartbeats 4000000 in
theorem lexr_sign (l : List UInt8) (w wr : World) (R : LexR) (K : Act → World → Prop) (hbig : ¬ 8192 < l.length) (n c0 k : Nat) (ao : Option Addr) (hk : k ≤ l.length) (hG : Hid (LexAt w wr l R k (.slice ao n c0) n)) (hlt : k < l.length) (c : UInt8) (r : List UInt8) (hd : l.drop k = c :: r) (s1 : ¬ isSpc c = true) (s2 : ¬ c = 35) (s3 : ¬ isLet c = true) (s4 : ¬ isDig c = true)
    (u2 u3 u4 u7 u8 u9 u10 u11 u15 u16 u17 u18 u19 u20 u21 u22 u23 u24 u25 u26 u27 u28 u29 u30 u31 u32 u33 u34 u35 u36 u37 u38 u39 u40 u41 u42 u43 u44 u45 u46 u47 u48 u49 u50 u51 u52 u53 u54 u55 u56 u57 u58 u59 u60 u61 u62 u63 u64 u65 u66 u67 u68 u69 u70 u71 u72 u73 u74 u75 u76 u77 u78 u79 u80 u81 u82 u83 u84 u85 u86 u87 u88 u89 u90 u91 u92 u93 u94 u95 u96 u97 u98 u99 u100 u101 u102 u103 u104 u105 u106 u107 u108 u109 u110 u111 u112 u113 u114 u115 u116 u117 u118 u119 u120 u121 u122 u123 u124 u125 u126 u127 u128 u129 u130 u131 u132 u133 u134 u135 u136 u137 u138 u139 u140 u141 u142 u143 u144 u145 u146 u147 u148 u149 u150 u151 u152 u153 u154 u155 u156 u157 u158 u159 u160 u161 u162 u163 u164 u165 u166 u167 u168 u169 u170 u171 u172 u173 u174 u175 u176 : Value) : Code.wp Tryd.prog lexBody (Exit.then (fun a' w' => (∃ u2 u3 u4 u5 u6 u7 u8 u9 u10 u11 u15 u16 u17 u18 u19 u20 u21 u22 u23 u24 u25 u26 u27 u28 u29 u30 u31 u32 u33 u34 u35 u36 u37 u38 u39 u40 u41 u42 u43 u44 u45 u46 u47 u48 u49 u50 u51 u52 u53 u54 u55 u56 u57 u58 u59 u60 u61 u62 u63 u64 u65 u66 u67 u68 u69 u70 u71 u72 u73 u74 u75 u76 u77 u78 u79 u80 u81 u82 u83 u84 u85 u86 u87 u88 u89 u90 u91 u92 u93 u94 u95 u96 u97 u98 u99 u100 u101 u102 u103 u104 u105 u106 u107 u108 u109 u110 u111 u112 u113 u114 u115 u116 u117 u118 u119 u120 u121 u122 u123 u124 u125 u126 u127 u128 u129 u130 u131 u132 u133 u134 u135 u136 u137 u138 u139 u140 u141 u142 u143 u144 u145 u146 u147 u148 u149 u150 u151 u152 u153 u154 u155 u156 u157 u158 u159 u160 u161 u162 u163 u164 u165 u166 u167 u168 u169 u170 u171 u172 u173 u174 u175 u176 : Value, (∃ (n c k : Nat) (ao : Option Addr), k ≤ l.length ∧ u6 = .int .i64 (k : Int) ∧ u5 = .slice ao n c ∧ Hid (LexAt w w' l R k (.slice ao n c) n)) ∧ a' = ⟨#[.string (tx l), undef, u2, u3, u4, u5, u6, u7, u8, u9, u10, u11, .string (tx l), .int .i64 (l.length : Int), .bool false, u15, u16, u17, u18, u19, u20, u21, u22, u23, u24, u25, u26, u27, u28, u29, u30, u31, u32, u33, u34, u35, u36, u37, u38, u39, u40, u41, u42, u43, u44, u45, u46, u47, u48, u49, u50, u51, u52, u53, u54, u55, u56, u57, u58, u59, u60, u61, u62, u63, u64, u65, u66, u67, u68, u69, u70, u71, u72, u73, u74, u75, u76, u77, u78, u79, u80, u81, u82, u83, u84, u85, u86, u87, u88, u89, u90, u91, u92, u93, u94, u95, u96, u97, u98, u99, u100, u101, u102, u103, u104, u105, u106, u107, u108, u109, u110, u111, u112, u113, u114, u115, u116, u117, u118, u119, u120, u121, u122, u123, u124, u125, u126, u127, u128, u129, u130, u131, u132, u133, u134, u135, u136, u137, u138, u139, u140, u141, u142, u143, u144, u145, u146, u147, u148, u149, u150, u151, u152, u153, u154, u155, u156, u157, u158, u159, u160, u161, u162, u163, u164, u165, u166, u167, u168, u169, u170, u171, u172, u173, u174, u175, u176, undef, undef, undef, undef, undef, undef], []⟩) ∧ l.length - (RowKit.intOf (a'.tmps.getD 6 undef)).toNat < l.length - (RowKit.intOf ((#[.string (tx l), undef, u2, u3, u4, .slice ao n c0, .int .i64 (k : Int), u7, u8, u9, u10, u11, .string (tx l), .int .i64 (l.length : Int), .bool false, u15, u16, u17, u18, u19, u20, u21, u22, u23, u24, u25, u26, u27, u28, u29, u30, u31, u32, u33, u34, u35, u36, u37, u38, u39, u40, u41, u42, u43, u44, u45, u46, u47, u48, u49, u50, u51, u52, u53, u54, u55, u56, u57, u58, u59, u60, u61, u62, u63, u64, u65, u66, u67, u68, u69, u70, u71, u72, u73, u74, u75, u76, u77, u78, u79, u80, u81, u82, u83, u84, u85, u86, u87, u88, u89, u90, u91, u92, u93, u94, u95, u96, u97, u98, u99, u100, u101, u102, u103, u104, u105, u106, u107, u108, u109, u110, u111, u112, u113, u114, u115, u116, u117, u118, u119, u120, u121, u122, u123, u124, u125, u126, u127, u128, u129, u130, u131, u132, u133, u134, u135, u136, u137, u138, u139, u140, u141, u142, u143, u144, u145, u146, u147, u148, u149, u150, u151, u152, u153, u154, u155, u156, u157, u158, u159, u160, u161, u162, u163, u164, u165, u166, u167, u168, u169, u170, u171, u172, u173, u174, u175, u176, undef, undef, undef, undef, undef, undef] : Array Value).getD 6 undef)).toNat) (Exit.inBlock 0 (Exit.then K (bodyPost Tryd.prog Tryd.f55 (LexTold w R))))) ⟨#[.string (tx l), undef, u2, u3, u4, .slice ao n c0, .int .i64 (k : Int), u7, u8, u9, u10, u11, .string (tx l), .int .i64 (l.length : Int), .bool false, u15, u16, u17, u18, u19, u20, u21, u22, u23, u24, u25, u26, u27, u28, u29, u30, u31, u32, u33, u34, u35, u36, u37, u38, u39, u40, u41, u42, u43, u44, u45, u46, u47, u48, u49, u50, u51, u52, u53, u54, u55, u56, u57, u58, u59, u60, u61, u62, u63, u64, u65, u66, u67, u68, u69, u70, u71, u72, u73, u74, u75, u76, u77, u78, u79, u80, u81, u82, u83, u84, u85, u86, u87, u88, u89, u90, u91, u92, u93, u94, u95, u96, u97, u98, u99, u100, u101, u102, u103, u104, u105, u106, u107, u108, u109, u110, u111, u112, u113, u114, u115, u116, u117, u118, u119, u120, u121, u122, u123, u124, u125, u126, u127, u128, u129, u130, u131, u132, u133, u134, u135, u136, u137, u138, u139, u140, u141, u142, u143, u144, u145, u146, u147, u148, u149, u150, u151, u152, u153, u154, u155, u156, u157, u158, u159, u160, u161, u162, u163, u164, u165, u166, u167, u168, u169, u170, u171, u172, u173, u174, u175, u176, undef, undef, undef, undef, undef, undef], []⟩ wr := by
  conv => arg 2; whnf
  have hsz := tx_size l
  have hb : ¬ (8192 : Int) < (l.length : Int) := by omega
  have HL := Lib.hid hbig
  have h3 : (k : Int) < (l.length : Int) := by omega
  obtain ⟨hc, hr, _⟩ := drop_at hd
  have hb1 := tx_at hc (by rw [hsz]; exact hlt)
  have HD := Lib.hid (And.intro hd (And.intro hc hr))
  clear hd hc hr
  have f0 := s1
  rw [spc_int] at f0
  simp only [Bool.or_eq_true, not_or, Bool.not_eq_true] at f0
  obtain ⟨⟨⟨f1, f2⟩, f3⟩, f4⟩ := f0
  have f5 : ((c.toNat : Int) == 35) = false := ne_int s2
  have s3f : isLet c = false := by simpa using s3
  have s4f : isDig c = false := by simpa using s4
  obtain ⟨N, hN⟩ : ∃ N, N = signL (c :: r) := ⟨_, rfl⟩
  have hNr := signL_le (c :: r)
  have hrl := congrArg List.length HD.out.2.2
  rw [List.length_drop] at hrl
  have hkN : k + N ≤ l.length := by simp only [List.length_cons] at hNr; omega
  have hS : stepL (c :: r) = if N = 0 then .bad 10 else .tok 4 N := by
    rw [hN]
    exact (if_neg s1).trans ((if_neg s2).trans ((if_neg s3).trans (if_neg s4)))
  have PS := ref_sign l k c r HD.out.1 (by have := HL.out; omega) wr
  rw [← hN] at PS
  obtain ⟨acc, HAcc⟩ := hG.out
  have HA0 := Lib.hid HAcc
  have FL : Hid (n + 1 ≤ 1000000) := Lib.hid (by have := HAcc.1.1; have := HAcc.2.2.2; have := HL.out; omega)
  have HX := Lib.hid (And.intro hrl (And.intro hkN (And.intro hS hN)))
  clear s1 s2 s3 s4 hS hNr hrl hkN hN HAcc
  go_wp2_with (first | (go_at_call 72; refine (ref_letter _ _).mono ?_; rintro e w' ⟨rfl, rfl⟩) | (go_at_call 73; refine (ref_digit _ _).mono ?_; rintro e w' ⟨rfl, rfl⟩))
  refine PS.mono ?_
  rintro e w' ⟨rfl, rfl⟩
  clear PS
  by_cases h0 : N = 0
  · have hq0 : (c :: r).take N = [] := by rw [h0]; rfl
    rw [hq0]
    have ht0 := tx_list []
    obtain ⟨hR9, hb9⟩ := hG.out.bad HD.out.1 (HX.out.2.2.1.trans (if_pos h0))
    have HB9 := Lib.hid (And.intro hR9 hb9)
    clear hR9 hb9 hq0
    go_wp2_with fail
    go_ret3
    rw [HB9.out.1]
    exact ⟨none, 0, 0, rfl, Tkr.nil _, HB9.out.2⟩
  · obtain ⟨Q, hQ⟩ : ∃ Q, Q = (c :: r).take N := ⟨_, rfl⟩
    have ht0 := tx_list Q
    have hQl : (tx Q).size = N := by
      rw [tx_size, hQ, List.length_take]
      have := HX.out.1
      have := HX.out.2.1
      simp only [List.length_cons]
      omega
    have hQn : (Q == []) = false := by
      cases Q with
      | nil => exact absurd hQl (fun h => h0 h.symm)
      | cons _ _ => rfl
    rw [← hQ]
    have HS2 : Hid (stepL (c :: r) = .tok 4 N) := Lib.hid (HX.out.2.2.1.trans (if_neg h0))
    have HQ := Lib.hid hQ
    have hwr := wrap64_id ((k : Int) + (N : Int)) (by have := HL.out; have := HX.out.2.1; omega)
    have HN1 : Hid (1 ≤ N) := Lib.hid (by omega)
    clear hQ h0
    go_wp2_with (at_builtin; go_loud (refine wpList_append_gen elemTok rfl (.tmp 28) (.tmp 32) rfl w.heap.size _ n _ rfl (HA0.out.1.2.alloc _) _ 1 (tv ⟨4, Q, k⟩) rfl (tok_lit _ ⟨4, Q, k⟩) (tv_one _) (n + 1) rfl FL (by decide) (by have := HA0.out.2.1.size; simp; omega) ?_; intro ao6 c6 w6 hown6 hb6 _ _; have HA := Lib.hid (And.intro hown6 hb6); clear hown6 hb6))
    have hk6 : Value.int .i64 (wrap64 ((k : Int) + (N : Int))) = .int .i64 ((k + N : Nat) : Int) := by rw [hwr, Int.natCast_add]
    rw [hk6]
    refine ⟨⟨n + 1, c6, k + N, ao6, HX.out.2.1, rfl, rfl, Lib.hid (LexAt.tok HA0.out HD.out.1 HS2.out ?_ HA.out.2)⟩, by have := HN1.out; have := HX.out.2.1; simp only [RowKit.intOf, Int.toNat_natCast]; omega⟩
    rw [← HQ.out]
    exact HA.out.1

end Go.Proofs.YtejaikpnfhhmnaaDoor

/- The reference's lexer, whole. Numbers and types by name. -/
namespace Go.Proofs.YtejaikpnfhhmnaaDoor
open Go.RowKit Go.Lib
set_option maxRecDepth 100000

set_option maxRecDepth 1000000 in
set_option maxHeartbeats 4000000 in
theorem ref_lex (l : List UInt8) (w : World) : Calls Tryd.prog 55 #[.string (tx l)] w (LexTold w (lexP l)) := by
  have hsz := tx_size l
  by_cases hbig : 8192 < l.length
  · have hb : (8192 : Int) < (l.length : Int) := by omega
    have HR : lexP l = ⟨[], 9, 8192⟩ := if_pos hbig
    rw [HR]
    go_enter Tryd.func55, Tryd.ntmps55
    go_wp2_with fail
    go_ret3
    exact ⟨none, 0, 0, rfl, Tkr.nil _, Below.refl _ _⟩
  have hb : ¬ (8192 : Int) < (l.length : Int) := by omega
  obtain ⟨R, hR⟩ : ∃ R, R = lexP l := ⟨_, rfl⟩
  have HR : Hid (appL [] (lexA 0 (l.drop 0)) = R) := Lib.hid (by rw [appL_nil, hR]; exact (if_neg hbig).symm)
  rw [← hR]
  clear hR
  have HL := Lib.hid hbig
  go_enter Tryd.func55, Tryd.ntmps55
  go_wp2_with fail
  go_loopw [5, 6] (fun v i wr => ∃ (n c k : Nat) (ao : Option Addr), k ≤ l.length ∧ i = .int .i64 k ∧ v = .slice ao n c ∧ Hid (LexAt w wr l R k (.slice ao n c) n))
    (fun _ i _ => l.length - (RowKit.intOf i).toNat)
  case atStart => exact ⟨0, 0, 0, none, Nat.zero_le _, rfl, rfl, Lib.hid ⟨[], OwnT.nil _ _, Below.refl _ _, HR.out, Nat.zero_le _⟩⟩
  case round =>
    obtain ⟨n, c0, k, ao, hk, rfl, rfl, hG⟩ := hrel
    by_cases hlt : k < l.length
    · have h3 : (k : Int) < (l.length : Int) := by omega
      obtain ⟨c, r, hd⟩ : ∃ c r, l.drop k = c :: r := by
        cases hx : l.drop k with
        | nil =>
          have := congrArg List.length hx
          simp only [List.length_drop, List.length_nil] at this
          omega
        | cons c r => exact ⟨c, r, rfl⟩
      by_cases s1 : isSpc c = true
      · exact lexr_blank l w wr R _ HL.out n c0 k ao hk hG hlt c r hd s1 _ _ _ _ _ _ _ _ _ _ _ _ _ _ _ _ _ _ _ _ _ _ _ _ _ _ _ _ _ _ _ _ _ _ _ _ _ _ _ _ _ _ _ _ _ _ _ _ _ _ _ _ _ _ _ _ _ _ _ _ _ _ _ _ _ _ _ _ _ _ _ _ _ _ _ _ _ _ _ _ _ _ _ _ _ _ _ _ _ _ _ _ _ _ _ _ _ _ _ _ _ _ _ _ _ _ _ _ _ _ _ _ _ _ _ _ _ _ _ _ _ _ _ _ _ _ _ _ _ _ _ _ _ _ _ _ _ _ _ _ _ _ _ _ _ _ _ _ _ _ _ _ _ _ _ _ _ _ _ _ _ _ _ _ _ _ _ _ _ _
      by_cases s2 : c = 35
      · exact lexr_remark l w wr R _ HL.out n c0 k ao hk hG hlt c r hd s1 s2 _ _ _ _ _ _ _ _ _ _ _ _ _ _ _ _ _ _ _ _ _ _ _ _ _ _ _ _ _ _ _ _ _ _ _ _ _ _ _ _ _ _ _ _ _ _ _ _ _ _ _ _ _ _ _ _ _ _ _ _ _ _ _ _ _ _ _ _ _ _ _ _ _ _ _ _ _ _ _ _ _ _ _ _ _ _ _ _ _ _ _ _ _ _ _ _ _ _ _ _ _ _ _ _ _ _ _ _ _ _ _ _ _ _ _ _ _ _ _ _ _ _ _ _ _ _ _ _ _ _ _ _ _ _ _ _ _ _ _ _ _ _ _ _ _ _ _ _ _ _ _ _ _ _ _ _ _ _ _ _ _ _ _ _ _ _ _ _ _ _
      by_cases s3 : isLet c = true
      · exact lexr_word l w wr R _ HL.out n c0 k ao hk hG hlt c r hd s1 s2 s3 _ _ _ _ _ _ _ _ _ _ _ _ _ _ _ _ _ _ _ _ _ _ _ _ _ _ _ _ _ _ _ _ _ _ _ _ _ _ _ _ _ _ _ _ _ _ _ _ _ _ _ _ _ _ _ _ _ _ _ _ _ _ _ _ _ _ _ _ _ _ _ _ _ _ _ _ _ _ _ _ _ _ _ _ _ _ _ _ _ _ _ _ _ _ _ _ _ _ _ _ _ _ _ _ _ _ _ _ _ _ _ _ _ _ _ _ _ _ _ _ _ _ _ _ _ _ _ _ _ _ _ _ _ _ _ _ _ _ _ _ _ _ _ _ _ _ _ _ _ _ _ _ _ _ _ _ _ _ _ _ _ _ _ _ _ _ _ _ _ _
      by_cases s4 : isDig c = true
      · exact lexr_number l w wr R _ HL.out n c0 k ao hk hG hlt c r hd s1 s2 s3 s4 _ _ _ _ _ _ _ _ _ _ _ _ _ _ _ _ _ _ _ _ _ _ _ _ _ _ _ _ _ _ _ _ _ _ _ _ _ _ _ _ _ _ _ _ _ _ _ _ _ _ _ _ _ _ _ _ _ _ _ _ _ _ _ _ _ _ _ _ _ _ _ _ _ _ _ _ _ _ _ _ _ _ _ _ _ _ _ _ _ _ _ _ _ _ _ _ _ _ _ _ _ _ _ _ _ _ _ _ _ _ _ _ _ _ _ _ _ _ _ _ _ _ _ _ _ _ _ _ _ _ _ _ _ _ _ _ _ _ _ _ _ _ _ _ _ _ _ _ _ _ _ _ _ _ _ _ _ _ _ _ _ _ _ _ _ _ _ _ _ _
      · exact lexr_sign l w wr R _ HL.out n c0 k ao hk hG hlt c r hd s1 s2 s3 s4 _ _ _ _ _ _ _ _ _ _ _ _ _ _ _ _ _ _ _ _ _ _ _ _ _ _ _ _ _ _ _ _ _ _ _ _ _ _ _ _ _ _ _ _ _ _ _ _ _ _ _ _ _ _ _ _ _ _ _ _ _ _ _ _ _ _ _ _ _ _ _ _ _ _ _ _ _ _ _ _ _ _ _ _ _ _ _ _ _ _ _ _ _ _ _ _ _ _ _ _ _ _ _ _ _ _ _ _ _ _ _ _ _ _ _ _ _ _ _ _ _ _ _ _ _ _ _ _ _ _ _ _ _ _ _ _ _ _ _ _ _ _ _ _ _ _ _ _ _ _ _ _ _ _ _ _ _ _ _ _ _ _ _ _ _ _ _ _ _ _
    · have h3 : ¬ (k : Int) < (l.length : Int) := by omega
      obtain rfl : k = l.length := by omega
      obtain ⟨acc, HAcc⟩ := hG.out
      have HA0 := Lib.hid HAcc
      have FL : Hid (n + 1 ≤ 1000000) := Lib.hid (by have := HAcc.1.1; have := HAcc.2.2.2; have := HL.out; omega)
      clear HAcc
      go_wp2_with (at_builtin; go_loud (refine wpList_append_gen elemTok rfl (.tmp 177) (.tmp 181) rfl w.heap.size _ n _ rfl (HA0.out.1.2.alloc _) _ 1 (tv ⟨0, [], l.length⟩) rfl (tok_lit _ ⟨0, [], l.length⟩) (tv_one _) (n + 1) rfl FL (by decide) (by have := HA0.out.2.1.size; simp; omega) ?_; intro ao6 c6 w6 hown6 hb6 _ _; have HA := Lib.hid (And.intro hown6 hb6); clear hown6 hb6))
      go_ret3
      have hR := HA0.out.2.2.1
      rw [List.drop_eq_nil_of_le (Nat.le_refl _), lexA_nil] at hR
      rw [← hR]
      exact ⟨ao6, n + 1, c6, rfl, OwnT.read ⟨by rw [HA0.out.1.1]; simp [appL], by rw [show (appL acc ⟨[⟨0, [], l.length⟩], 0, 0⟩).l = acc ++ [⟨0, [], l.length⟩] from rfl, tvs_snoc]; exact HA.out.1⟩ (by have := HA0.out.1.1; have := HA0.out.2.2.2; have := HL.out; omega), (HA0.out.2.1.alloc HA0.out.2.1.size _).trans HA.out.2⟩

end Go.Proofs.YtejaikpnfhhmnaaDoor

namespace Go.Proofs.YtejaikpnfhhmnaaDoor
open Go.RowKit Go.Lib
set_option maxRecDepth 100000

theorem code_space (c : UInt8) (w : World) : Calls Tryd.prog 92 #[.int .u8 (c.toNat : Int)] w fun e w' => e = .returned (.bool (isSpc c)) ∧ w = w' := by
  rw [spc_int]
  generalize c.toNat = k
  obtain ⟨b1, q1⟩ : ∃ b, ((k : Int) == 32) = b := ⟨_, rfl⟩
  obtain ⟨b2, q2⟩ : ∃ b, ((k : Int) == 9) = b := ⟨_, rfl⟩
  obtain ⟨b3, q3⟩ : ∃ b, ((k : Int) == 10) = b := ⟨_, rfl⟩
  obtain ⟨b4, q4⟩ : ∃ b, ((k : Int) == 13) = b := ⟨_, rfl⟩
  rw [q1, q2, q3, q4]
  go_enter Tryd.func92, Tryd.ntmps92
  cases b1 <;> cases b2 <;> cases b3 <;> cases b4 <;> (go_wp2_with fail; go_ret; exact ⟨rfl, rfl⟩)
theorem code_line (c : UInt8) (w : World) : Calls Tryd.prog 91 #[.int .u8 (c.toNat : Int)] w fun e w' => e = .returned (.bool (c != 10)) ∧ w = w' := by
  have e1 : (c != 10) = ((c.toNat : Int) != 10) := by
    rw [bne, bne]
    congr 1
    rw [Bool.eq_iff_iff, beq_iff_eq, beq_iff_eq, ← UInt8.toNat_inj]
    have : (10 : UInt8).toNat = 10 := rfl
    omega
  rw [e1]
  generalize c.toNat = k
  go_enter Tryd.func91, Tryd.ntmps91
  go_wp2_with fail
  go_ret
  exact ⟨rfl, rfl⟩
theorem code_letter (c : UInt8) (w : World) : Calls Tryd.prog 93 #[.int .u8 (c.toNat : Int)] w fun e w' => e = .returned (.bool (isLet c)) ∧ w = w' := by
  unfold isLet
  generalize c.toNat = k
  by_cases h1 : 97 ≤ k
  · have h2 : (97 : Int) ≤ (k : Int) := by omega
    by_cases h3 : k ≤ 122
    · have h4 : (k : Int) ≤ (122 : Int) := by omega
      go_enter Tryd.func93, Tryd.ntmps93
      go_wp2_with fail
      go_ret
      exact ⟨by simp [h1, h3], rfl⟩
    · have h4 : ¬ (k : Int) ≤ (122 : Int) := by omega
      go_enter Tryd.func93, Tryd.ntmps93
      go_wp2_with fail
      go_ret
      exact ⟨by simp [h3], rfl⟩
  · have h2 : ¬ (97 : Int) ≤ (k : Int) := by omega
    go_enter Tryd.func93, Tryd.ntmps93
    go_wp2_with fail
    go_ret
    exact ⟨by simp [h1], rfl⟩
theorem code_digit (c : UInt8) (w : World) : Calls Tryd.prog 95 #[.int .u8 (c.toNat : Int)] w fun e w' => e = .returned (.bool (isDig c)) ∧ w = w' := by
  unfold isDig
  generalize c.toNat = k
  by_cases h1 : 48 ≤ k
  · have h2 : (48 : Int) ≤ (k : Int) := by omega
    by_cases h3 : k ≤ 57
    · have h4 : (k : Int) ≤ (57 : Int) := by omega
      go_enter Tryd.func95, Tryd.ntmps95
      go_wp2_with fail
      go_ret
      exact ⟨by simp [h1, h3], rfl⟩
    · have h4 : ¬ (k : Int) ≤ (57 : Int) := by omega
      go_enter Tryd.func95, Tryd.ntmps95
      go_wp2_with fail
      go_ret
      exact ⟨by simp [h3], rfl⟩
  · have h2 : ¬ (48 : Int) ≤ (k : Int) := by omega
    go_enter Tryd.func95, Tryd.ntmps95
    go_wp2_with fail
    go_ret
    exact ⟨by simp [h1], rfl⟩
theorem code_wordB (c : UInt8) (w : World) : Calls Tryd.prog 100 #[.int .u8 (c.toNat : Int)] w fun e w' => e = .returned (.bool (isWrd c)) ∧ w = w' := by
  rw [us_int]
  have L := code_letter c
  have D := code_digit c
  obtain ⟨b1, q1⟩ : ∃ b, isLet c = b := ⟨_, rfl⟩
  obtain ⟨b2, q2⟩ : ∃ b, isDig c = b := ⟨_, rfl⟩
  rw [q1, q2]
  rw [q1] at L
  rw [q2] at D
  clear q1 q2
  generalize c.toNat = k at *
  obtain ⟨b3, q3⟩ : ∃ b, ((k : Int) == 95) = b := ⟨_, rfl⟩
  rw [q3]
  go_enter Tryd.func100, Tryd.ntmps100
  cases b1 <;> cases b2 <;> cases b3 <;>
  · go_wp2_with (first | (go_at_call 93; refine (L _).mono ?_; rintro e w' ⟨rfl, rfl⟩) | (go_at_call 95; refine (D _).mono ?_; rintro e w' ⟨rfl, rfl⟩))
    go_ret
    exact ⟨rfl, rfl⟩

theorem code_key (l : List UInt8) (w : World) : Calls Tryd.prog 101 #[.string (tx l)] w fun e w' => e = .returned (.bool (keysL.contains l)) ∧ w = w' := by
  have hl := tx_list l
  go_enter Tryd.func101, Tryd.ntmps101
  go_wp2_with fail
  all_goals first
    | (rename_i h1 h2
       rw [h1] at h2
       exact absurd h2 (by decide))
    | (rename_i h1
       obtain rfl := eq_of_beq h1
       go_ret
       exact ⟨rfl, rfl⟩)
    | (rename_i h1 h2
       obtain rfl := eq_of_beq h1
       go_ret
       exact ⟨rfl, rfl⟩)
    | (go_ret
       refine ⟨?_, rfl⟩
       simp_all [keysL])
theorem code_keyB {l : List UInt8} {B : Bool} (h : keysL.contains l = B) (w : World) : Calls Tryd.prog 101 #[.string (tx l)] w fun e w' => e = .returned (.bool B) ∧ w = w' := h ▸ code_key l w

theorem runL_of {p : UInt8 → Bool} {q : List UInt8} {k : Nat} (h1 : ∀ j, j < k → ∃ d, q[j]? = some d ∧ p d = true) (h2 : q.length = k ∨ ∃ d, q[k]? = some d ∧ p d = false) : runL p q = k := by
  obtain ⟨h3, h4⟩ := runL_at p q
  rcases Nat.lt_trichotomy (runL p q) k with h | h | h
  · obtain ⟨d, hd, hp⟩ := h1 _ h
    rcases h4 with h4 | ⟨d', hd', hp'⟩
    · rw [List.getElem?_eq_none (by omega)] at hd
      cases hd
    · rw [hd] at hd'
      cases hd'
      rw [hp] at hp'
      cases hp'
  · exact h
  · obtain ⟨d, hd, hp⟩ := h3 _ h
    rcases h2 with h2 | ⟨d', hd', hp'⟩
    · rw [List.getElem?_eq_none (by omega)] at hd
      cases hd
    · rw [hd] at hd'
      cases hd'
      rw [hp] at hp'
      cases hp'
/-- How many bytes of a class stand at the beginning. -/
theorem code_span (g : Nat) (p : UInt8 → Bool) (hg : ∀ (c : UInt8) (w : World), Calls Tryd.prog g #[.int .u8 (c.toNat : Int)] w fun e w' => e = .returned (.bool (p c)) ∧ w = w') (hent : ∀ (args : Array Value) (w : World), (callFunc g args).run Tryd.prog w = .ok (.enter g args) w) (l : List UInt8) (hm : l.length ≤ 9000) (w : World) :
    Calls Tryd.prog 90 #[.string (tx l), .func (.func g) #[] #[]] w fun e w' => e = .returned (.int .i64 (runL p l : Nat)) ∧ w = w' := by
  have hsz := tx_size l
  have HG := Lib.hid hg
  have HP := Lib.hid (fun k => @runL_of p l k)
  clear hg
  go_enter Tryd.func90, Tryd.ntmps90
  go_wp2_with fail
  go_loopw [8] (fun i wr => ∃ k : Nat, k ≤ l.length ∧ i = .int .i64 k ∧ Hid (∀ j, j < k → ∃ d, l[j]? = some d ∧ p d = true) ∧ w = wr)
    (fun i _ => l.length - (RowKit.intOf i).toNat)
  case atStart => exact ⟨0, Nat.zero_le _, rfl, Lib.hid (fun j hj => absurd hj (Nat.not_lt_zero _)), rfl⟩
  case round =>
    obtain ⟨k, hk, rfl, hs, rfl⟩ := hrel
    by_cases hlt : k < l.length
    · have h3 : (k : Int) < (l.length : Int) := by omega
      obtain ⟨c, hc⟩ : ∃ c, l[k]? = some c := ⟨_, List.getElem?_eq_getElem hlt⟩
      have hb := tx_at hc (by rw [hsz]; exact hlt)
      have hgc := HG.out c
      have hwr : wrap64 ((k : Int) + 1) = (k : Int) + 1 := wrap64_id _ (by omega)
      obtain ⟨b, hpb⟩ : ∃ b, p c = b := ⟨_, rfl⟩
      rw [hpb] at hgc
      have HC := Lib.hid (And.intro hc hpb)
      clear hc hpb
      cases b with
      | true =>
        go_wp2_with fail
        refine (hgc _).mono ?_
        rintro e w' ⟨rfl, rfl⟩
        go_wp2_with fail
        refine ⟨⟨k + 1, by omega, by go_num, Lib.hid fun j hj => ?_, by first | rfl | trivial⟩, by simp [RowKit.intOf]; omega⟩
        rcases Nat.lt_or_ge j k with h | h
        · exact hs.out j h
        · obtain rfl : j = k := by omega
          exact ⟨c, HC.out.1, HC.out.2⟩
      | false =>
        go_wp2_with fail
        refine (hgc _).mono ?_
        rintro e w' ⟨rfl, rfl⟩
        go_wp2_with fail
        go_ret
        exact ⟨by rw [HP.out k hs.out (.inr ⟨c, HC.out.1, HC.out.2⟩)]; rfl, rfl⟩
    · have h3 : ¬ (k : Int) < (l.length : Int) := by omega
      obtain rfl : k = l.length := by omega
      go_wp2_with fail
      go_ret
      exact ⟨by rw [HP.out _ hs.out (.inl rfl)]; rfl, rfl⟩

end Go.Proofs.YtejaikpnfhhmnaaDoor
