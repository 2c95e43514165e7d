/- The table of signs, as the program's text lays it. Numbers and types by name. -/
import Derived.Test.YtlgfijjkbomejaaGreatDoorLxb
import Derived.Test.YtlgfijjkbomejaaGreatDoorLxd
import Derived.Test.YtlgfijjkbomejaaGreatDoorCel
import Derived.Lib.LaidTab
/- The reference's lexer: signs. Numbers and types by name. -/
namespace Go.Proofs.YtlgfijjkbomejaaGreatDoor
open Go.RowKit Go.Lib
set_option maxRecDepth 100000

set_option maxRecDepth 1000000 in
set_option maxHeartbeats 4000000 in
theorem lexr_sign (l : List UInt8) (w wr : World) (R : LexR) (K : Act → World → Prop) (hbig : ¬ 8192 < l.length) (n c0 k : Nat) (ao : Option Addr) (hk : k ≤ l.length) (hG : Hid (LexAt w wr l R k (.slice ao n c0) n)) (hlt : k < l.length) (c : UInt8) (r : List UInt8) (hd : l.drop k = c :: r) (s1 : ¬ isSpc c = true) (s2 : ¬ c = 35) (s3 : ¬ isLet c = true) (s4 : ¬ isDig c = true)
    (u2 u3 u4 u7 u8 u9 u10 u11 u15 u16 u17 u18 u19 u20 u21 u22 u23 u24 u25 u26 u27 u28 u29 u30 u31 u32 u33 u34 u35 u36 u37 u38 u39 u40 u41 u42 u43 u44 u45 u46 u47 u48 u49 u50 u51 u52 u53 u54 u55 u56 u57 u58 u59 u60 u61 u62 u63 u64 u65 u66 u67 u68 u69 u70 u71 u72 u73 u74 u75 u76 u77 u78 u79 u80 u81 u82 u83 u84 u85 u86 u87 u88 u89 u90 u91 u92 u93 u94 u95 u96 u97 u98 u99 u100 u101 u102 u103 u104 u105 u106 u107 u108 u109 u110 u111 u112 u113 u114 u115 u116 u117 u118 u119 u120 u121 u122 u123 u124 u125 u126 u127 u128 u129 u130 u131 u132 u133 u134 u135 u136 u137 u138 u139 u140 u141 u142 u143 u144 u145 u146 u147 u148 u149 u150 u151 u152 u153 u154 u155 u156 u157 u158 u159 u160 u161 u162 u163 u164 u165 u166 u167 u168 u169 u170 u171 u172 u173 u174 u175 u176 : Value) : Code.wp Tryz.prog lexBody (Exit.then (fun a' w' => (∃ u2 u3 u4 u5 u6 u7 u8 u9 u10 u11 u15 u16 u17 u18 u19 u20 u21 u22 u23 u24 u25 u26 u27 u28 u29 u30 u31 u32 u33 u34 u35 u36 u37 u38 u39 u40 u41 u42 u43 u44 u45 u46 u47 u48 u49 u50 u51 u52 u53 u54 u55 u56 u57 u58 u59 u60 u61 u62 u63 u64 u65 u66 u67 u68 u69 u70 u71 u72 u73 u74 u75 u76 u77 u78 u79 u80 u81 u82 u83 u84 u85 u86 u87 u88 u89 u90 u91 u92 u93 u94 u95 u96 u97 u98 u99 u100 u101 u102 u103 u104 u105 u106 u107 u108 u109 u110 u111 u112 u113 u114 u115 u116 u117 u118 u119 u120 u121 u122 u123 u124 u125 u126 u127 u128 u129 u130 u131 u132 u133 u134 u135 u136 u137 u138 u139 u140 u141 u142 u143 u144 u145 u146 u147 u148 u149 u150 u151 u152 u153 u154 u155 u156 u157 u158 u159 u160 u161 u162 u163 u164 u165 u166 u167 u168 u169 u170 u171 u172 u173 u174 u175 u176 : Value, (∃ (n c k : Nat) (ao : Option Addr), k ≤ l.length ∧ u6 = .int .i64 (k : Int) ∧ u5 = .slice ao n c ∧ Hid (LexAt w w' l R k (.slice ao n c) n)) ∧ a' = ⟨#[.string (tx l), undef, u2, u3, u4, u5, u6, u7, u8, u9, u10, u11, .string (tx l), .int .i64 (l.length : Int), .bool false, u15, u16, u17, u18, u19, u20, u21, u22, u23, u24, u25, u26, u27, u28, u29, u30, u31, u32, u33, u34, u35, u36, u37, u38, u39, u40, u41, u42, u43, u44, u45, u46, u47, u48, u49, u50, u51, u52, u53, u54, u55, u56, u57, u58, u59, u60, u61, u62, u63, u64, u65, u66, u67, u68, u69, u70, u71, u72, u73, u74, u75, u76, u77, u78, u79, u80, u81, u82, u83, u84, u85, u86, u87, u88, u89, u90, u91, u92, u93, u94, u95, u96, u97, u98, u99, u100, u101, u102, u103, u104, u105, u106, u107, u108, u109, u110, u111, u112, u113, u114, u115, u116, u117, u118, u119, u120, u121, u122, u123, u124, u125, u126, u127, u128, u129, u130, u131, u132, u133, u134, u135, u136, u137, u138, u139, u140, u141, u142, u143, u144, u145, u146, u147, u148, u149, u150, u151, u152, u153, u154, u155, u156, u157, u158, u159, u160, u161, u162, u163, u164, u165, u166, u167, u168, u169, u170, u171, u172, u173, u174, u175, u176, undef, undef, undef, undef, undef, undef], []⟩) ∧ l.length - (RowKit.intOf (a'.tmps.getD 6 undef)).toNat < l.length - (RowKit.intOf ((#[.string (tx l), undef, u2, u3, u4, .slice ao n c0, .int .i64 (k : Int), u7, u8, u9, u10, u11, .string (tx l), .int .i64 (l.length : Int), .bool false, u15, u16, u17, u18, u19, u20, u21, u22, u23, u24, u25, u26, u27, u28, u29, u30, u31, u32, u33, u34, u35, u36, u37, u38, u39, u40, u41, u42, u43, u44, u45, u46, u47, u48, u49, u50, u51, u52, u53, u54, u55, u56, u57, u58, u59, u60, u61, u62, u63, u64, u65, u66, u67, u68, u69, u70, u71, u72, u73, u74, u75, u76, u77, u78, u79, u80, u81, u82, u83, u84, u85, u86, u87, u88, u89, u90, u91, u92, u93, u94, u95, u96, u97, u98, u99, u100, u101, u102, u103, u104, u105, u106, u107, u108, u109, u110, u111, u112, u113, u114, u115, u116, u117, u118, u119, u120, u121, u122, u123, u124, u125, u126, u127, u128, u129, u130, u131, u132, u133, u134, u135, u136, u137, u138, u139, u140, u141, u142, u143, u144, u145, u146, u147, u148, u149, u150, u151, u152, u153, u154, u155, u156, u157, u158, u159, u160, u161, u162, u163, u164, u165, u166, u167, u168, u169, u170, u171, u172, u173, u174, u175, u176, undef, undef, undef, undef, undef, undef] : Array Value).getD 6 undef)).toNat) (Exit.inBlock 0 (Exit.then K (bodyPost Tryz.prog Tryz.f27 (LexTold w R))))) ⟨#[.string (tx l), undef, u2, u3, u4, .slice ao n c0, .int .i64 (k : Int), u7, u8, u9, u10, u11, .string (tx l), .int .i64 (l.length : Int), .bool false, u15, u16, u17, u18, u19, u20, u21, u22, u23, u24, u25, u26, u27, u28, u29, u30, u31, u32, u33, u34, u35, u36, u37, u38, u39, u40, u41, u42, u43, u44, u45, u46, u47, u48, u49, u50, u51, u52, u53, u54, u55, u56, u57, u58, u59, u60, u61, u62, u63, u64, u65, u66, u67, u68, u69, u70, u71, u72, u73, u74, u75, u76, u77, u78, u79, u80, u81, u82, u83, u84, u85, u86, u87, u88, u89, u90, u91, u92, u93, u94, u95, u96, u97, u98, u99, u100, u101, u102, u103, u104, u105, u106, u107, u108, u109, u110, u111, u112, u113, u114, u115, u116, u117, u118, u119, u120, u121, u122, u123, u124, u125, u126, u127, u128, u129, u130, u131, u132, u133, u134, u135, u136, u137, u138, u139, u140, u141, u142, u143, u144, u145, u146, u147, u148, u149, u150, u151, u152, u153, u154, u155, u156, u157, u158, u159, u160, u161, u162, u163, u164, u165, u166, u167, u168, u169, u170, u171, u172, u173, u174, u175, u176, undef, undef, undef, undef, undef, undef], []⟩ wr := by
  conv => arg 2; whnf
  have hsz := tx_size l
  have hb : ¬ (8192 : Int) < (l.length : Int) := by omega
  have HL := Lib.hid hbig
  have h3 : (k : Int) < (l.length : Int) := by omega
  obtain ⟨hc, hr, _⟩ := drop_at hd
  have hb1 := tx_at hc (by rw [hsz]; exact hlt)
  have HD := Lib.hid (And.intro hd (And.intro hc hr))
  clear hd hc hr
  have f0 := s1
  rw [spc_int] at f0
  simp only [Bool.or_eq_true, not_or, Bool.not_eq_true] at f0
  obtain ⟨⟨⟨f1, f2⟩, f3⟩, f4⟩ := f0
  have f5 : ((c.toNat : Int) == 35) = false := ne_int s2
  have s3f : isLet c = false := by simpa using s3
  have s4f : isDig c = false := by simpa using s4
  obtain ⟨N, hN⟩ : ∃ N, N = signL (c :: r) := ⟨_, rfl⟩
  have hNr := signL_le (c :: r)
  have hrl := congrArg List.length HD.out.2.2
  rw [List.length_drop] at hrl
  have hkN : k + N ≤ l.length := by simp only [List.length_cons] at hNr; omega
  have hS : stepL (c :: r) = if N = 0 then .bad 10 else .tok 4 N := by
    rw [hN]
    exact (if_neg s1).trans ((if_neg s2).trans ((if_neg s3).trans (if_neg s4)))
  have PS := ref_sign l k c r HD.out.1 (by have := HL.out; omega) wr
  rw [← hN] at PS
  obtain ⟨acc, HAcc⟩ := hG.out
  have HA0 := Lib.hid HAcc
  have FL : Hid (n + 1 ≤ 1000000) := Lib.hid (by have := HAcc.1.1; have := HAcc.2.2.2; have := HL.out; omega)
  have HX := Lib.hid (And.intro hrl (And.intro hkN (And.intro hS hN)))
  clear s1 s2 s3 s4 hS hNr hrl hkN hN HAcc
  go_wp2_with (first | (go_at_call 61; refine (ref_letter _ _).mono ?_; rintro e w' ⟨rfl, rfl⟩) | (go_at_call 62; refine (ref_digit _ _).mono ?_; rintro e w' ⟨rfl, rfl⟩))
  refine PS.mono ?_
  rintro e w' ⟨rfl, rfl⟩
  clear PS
  by_cases h0 : N = 0
  · have hq0 : (c :: r).take N = [] := by rw [h0]; rfl
    rw [hq0]
    have ht0 := tx_list []
    obtain ⟨hR9, hb9⟩ := hG.out.bad HD.out.1 (HX.out.2.2.1.trans (if_pos h0))
    have HB9 := Lib.hid (And.intro hR9 hb9)
    clear hR9 hb9 hq0
    go_wp2_with fail
    go_ret3
    rw [HB9.out.1]
    exact ⟨none, 0, 0, rfl, Tkr.nil _, HB9.out.2⟩
  · obtain ⟨Q, hQ⟩ : ∃ Q, Q = (c :: r).take N := ⟨_, rfl⟩
    have ht0 := tx_list Q
    have hQl : (tx Q).size = N := by
      rw [tx_size, hQ, List.length_take]
      have := HX.out.1
      have := HX.out.2.1
      simp only [List.length_cons]
      omega
    have hQn : (Q == []) = false := by
      cases Q with
      | nil => exact absurd hQl (fun h => h0 h.symm)
      | cons _ _ => rfl
    rw [← hQ]
    have HS2 : Hid (stepL (c :: r) = .tok 4 N) := Lib.hid (HX.out.2.2.1.trans (if_neg h0))
    have HQ := Lib.hid hQ
    have hwr := wrap64_id ((k : Int) + (N : Int)) (by have := HL.out; have := HX.out.2.1; omega)
    have HN1 : Hid (1 ≤ N) := Lib.hid (by omega)
    clear hQ h0
    go_wp2_with (at_builtin; go_loud (refine wpList_append_gen elemTok rfl (.tmp 28) (.tmp 32) rfl w.heap.size _ n _ rfl (HA0.out.1.2.alloc _) _ 1 (tv ⟨4, Q, k⟩) rfl (tok_lit _ ⟨4, Q, k⟩) (tv_one _) (n + 1) rfl FL (by decide) (by have := HA0.out.2.1.size; simp; omega) ?_; intro ao6 c6 w6 hown6 hb6 _ _; have HA := Lib.hid (And.intro hown6 hb6); clear hown6 hb6))
    have hk6 : Value.int .i64 (wrap64 ((k : Int) + (N : Int))) = .int .i64 ((k + N : Nat) : Int) := by rw [hwr, Int.natCast_add]
    rw [hk6]
    refine ⟨⟨n + 1, c6, k + N, ao6, HX.out.2.1, rfl, rfl, Lib.hid (LexAt.tok HA0.out HD.out.1 HS2.out ?_ HA.out.2)⟩, by have := HN1.out; have := HX.out.2.1; simp only [RowKit.intOf, Int.toNat_natCast]; omega⟩
    rw [← HQ.out]
    exact HA.out.1

end Go.Proofs.YtlgfijjkbomejaaGreatDoor

/- The reference's lexer, whole. Numbers and types by name. -/
namespace Go.Proofs.YtlgfijjkbomejaaGreatDoor
open Go.RowKit Go.Lib
set_option maxRecDepth 100000

set_option maxRecDepth 1000000 in
set_option maxHeartbeats 4000000 in
theorem ref_lex (l : List UInt8) (w : World) : Calls Tryz.prog 27 #[.string (tx l)] w (LexTold w (lexP l)) := by
  have hsz := tx_size l
  by_cases hbig : 8192 < l.length
  · have hb : (8192 : Int) < (l.length : Int) := by omega
    have HR : lexP l = ⟨[], 9, 8192⟩ := if_pos hbig
    rw [HR]
    go_enter Tryz.func27, Tryz.ntmps27
    go_wp2_with fail
    go_ret3
    exact ⟨none, 0, 0, rfl, Tkr.nil _, Below.refl _ _⟩
  have hb : ¬ (8192 : Int) < (l.length : Int) := by omega
  obtain ⟨R, hR⟩ : ∃ R, R = lexP l := ⟨_, rfl⟩
  have HR : Hid (appL [] (lexA 0 (l.drop 0)) = R) := Lib.hid (by rw [appL_nil, hR]; exact (if_neg hbig).symm)
  rw [← hR]
  clear hR
  have HL := Lib.hid hbig
  go_enter Tryz.func27, Tryz.ntmps27
  go_wp2_with fail
  go_loopw [5, 6] (fun v i wr => ∃ (n c k : Nat) (ao : Option Addr), k ≤ l.length ∧ i = .int .i64 k ∧ v = .slice ao n c ∧ Hid (LexAt w wr l R k (.slice ao n c) n))
    (fun _ i _ => l.length - (RowKit.intOf i).toNat)
  case atStart => exact ⟨0, 0, 0, none, Nat.zero_le _, rfl, rfl, Lib.hid ⟨[], OwnT.nil _ _, Below.refl _ _, HR.out, Nat.zero_le _⟩⟩
  case round =>
    obtain ⟨n, c0, k, ao, hk, rfl, rfl, hG⟩ := hrel
    by_cases hlt : k < l.length
    · have h3 : (k : Int) < (l.length : Int) := by omega
      obtain ⟨c, r, hd⟩ : ∃ c r, l.drop k = c :: r := by
        cases hx : l.drop k with
        | nil =>
          have := congrArg List.length hx
          simp only [List.length_drop, List.length_nil] at this
          omega
        | cons c r => exact ⟨c, r, rfl⟩
      by_cases s1 : isSpc c = true
      · exact lexr_blank l w wr R _ HL.out n c0 k ao hk hG hlt c r hd s1 _ _ _ _ _ _ _ _ _ _ _ _ _ _ _ _ _ _ _ _ _ _ _ _ _ _ _ _ _ _ _ _ _ _ _ _ _ _ _ _ _ _ _ _ _ _ _ _ _ _ _ _ _ _ _ _ _ _ _ _ _ _ _ _ _ _ _ _ _ _ _ _ _ _ _ _ _ _ _ _ _ _ _ _ _ _ _ _ _ _ _ _ _ _ _ _ _ _ _ _ _ _ _ _ _ _ _ _ _ _ _ _ _ _ _ _ _ _ _ _ _ _ _ _ _ _ _ _ _ _ _ _ _ _ _ _ _ _ _ _ _ _ _ _ _ _ _ _ _ _ _ _ _ _ _ _ _ _ _ _ _ _ _ _ _ _ _ _ _ _
      by_cases s2 : c = 35
      · exact lexr_remark l w wr R _ HL.out n c0 k ao hk hG hlt c r hd s1 s2 _ _ _ _ _ _ _ _ _ _ _ _ _ _ _ _ _ _ _ _ _ _ _ _ _ _ _ _ _ _ _ _ _ _ _ _ _ _ _ _ _ _ _ _ _ _ _ _ _ _ _ _ _ _ _ _ _ _ _ _ _ _ _ _ _ _ _ _ _ _ _ _ _ _ _ _ _ _ _ _ _ _ _ _ _ _ _ _ _ _ _ _ _ _ _ _ _ _ _ _ _ _ _ _ _ _ _ _ _ _ _ _ _ _ _ _ _ _ _ _ _ _ _ _ _ _ _ _ _ _ _ _ _ _ _ _ _ _ _ _ _ _ _ _ _ _ _ _ _ _ _ _ _ _ _ _ _ _ _ _ _ _ _ _ _ _ _ _ _ _
      by_cases s3 : isLet c = true
      · exact lexr_word l w wr R _ HL.out n c0 k ao hk hG hlt c r hd s1 s2 s3 _ _ _ _ _ _ _ _ _ _ _ _ _ _ _ _ _ _ _ _ _ _ _ _ _ _ _ _ _ _ _ _ _ _ _ _ _ _ _ _ _ _ _ _ _ _ _ _ _ _ _ _ _ _ _ _ _ _ _ _ _ _ _ _ _ _ _ _ _ _ _ _ _ _ _ _ _ _ _ _ _ _ _ _ _ _ _ _ _ _ _ _ _ _ _ _ _ _ _ _ _ _ _ _ _ _ _ _ _ _ _ _ _ _ _ _ _ _ _ _ _ _ _ _ _ _ _ _ _ _ _ _ _ _ _ _ _ _ _ _ _ _ _ _ _ _ _ _ _ _ _ _ _ _ _ _ _ _ _ _ _ _ _ _ _ _ _ _ _ _
      by_cases s4 : isDig c = true
      · exact lexr_number l w wr R _ HL.out n c0 k ao hk hG hlt c r hd s1 s2 s3 s4 _ _ _ _ _ _ _ _ _ _ _ _ _ _ _ _ _ _ _ _ _ _ _ _ _ _ _ _ _ _ _ _ _ _ _ _ _ _ _ _ _ _ _ _ _ _ _ _ _ _ _ _ _ _ _ _ _ _ _ _ _ _ _ _ _ _ _ _ _ _ _ _ _ _ _ _ _ _ _ _ _ _ _ _ _ _ _ _ _ _ _ _ _ _ _ _ _ _ _ _ _ _ _ _ _ _ _ _ _ _ _ _ _ _ _ _ _ _ _ _ _ _ _ _ _ _ _ _ _ _ _ _ _ _ _ _ _ _ _ _ _ _ _ _ _ _ _ _ _ _ _ _ _ _ _ _ _ _ _ _ _ _ _ _ _ _ _ _ _ _
      · exact lexr_sign l w wr R _ HL.out n c0 k ao hk hG hlt c r hd s1 s2 s3 s4 _ _ _ _ _ _ _ _ _ _ _ _ _ _ _ _ _ _ _ _ _ _ _ _ _ _ _ _ _ _ _ _ _ _ _ _ _ _ _ _ _ _ _ _ _ _ _ _ _ _ _ _ _ _ _ _ _ _ _ _ _ _ _ _ _ _ _ _ _ _ _ _ _ _ _ _ _ _ _ _ _ _ _ _ _ _ _ _ _ _ _ _ _ _ _ _ _ _ _ _ _ _ _ _ _ _ _ _ _ _ _ _ _ _ _ _ _ _ _ _ _ _ _ _ _ _ _ _ _ _ _ _ _ _ _ _ _ _ _ _ _ _ _ _ _ _ _ _ _ _ _ _ _ _ _ _ _ _ _ _ _ _ _ _ _ _ _ _ _ _
    · have h3 : ¬ (k : Int) < (l.length : Int) := by omega
      obtain rfl : k = l.length := by omega
      obtain ⟨acc, HAcc⟩ := hG.out
      have HA0 := Lib.hid HAcc
      have FL : Hid (n + 1 ≤ 1000000) := Lib.hid (by have := HAcc.1.1; have := HAcc.2.2.2; have := HL.out; omega)
      clear HAcc
      go_wp2_with (at_builtin; go_loud (refine wpList_append_gen elemTok rfl (.tmp 177) (.tmp 181) rfl w.heap.size _ n _ rfl (HA0.out.1.2.alloc _) _ 1 (tv ⟨0, [], l.length⟩) rfl (tok_lit _ ⟨0, [], l.length⟩) (tv_one _) (n + 1) rfl FL (by decide) (by have := HA0.out.2.1.size; simp; omega) ?_; intro ao6 c6 w6 hown6 hb6 _ _; have HA := Lib.hid (And.intro hown6 hb6); clear hown6 hb6))
      go_ret3
      have hR := HA0.out.2.2.1
      rw [List.drop_eq_nil_of_le (Nat.le_refl _), lexA_nil] at hR
      rw [← hR]
      exact ⟨ao6, n + 1, c6, rfl, OwnT.read ⟨by rw [HA0.out.1.1]; simp [appL], by rw [show (appL acc ⟨[⟨0, [], l.length⟩], 0, 0⟩).l = acc ++ [⟨0, [], l.length⟩] from rfl, tvs_snoc]; exact HA.out.1⟩ (by have := HA0.out.1.1; have := HA0.out.2.2.2; have := HL.out; omega), (HA0.out.2.1.alloc HA0.out.2.1.size _).trans HA.out.2⟩

end Go.Proofs.YtlgfijjkbomejaaGreatDoor

/- THE CODE's lexer: classes of bytes, spans, key words, what a word or a number is. Numbers and types by name. -/
namespace Go.Proofs.YtlgfijjkbomejaaGreatDoor
open Go.RowKit Go.Lib
set_option maxRecDepth 100000

theorem runL_of {p : UInt8 → Bool} {q : List UInt8} {k : Nat} (h1 : ∀ j, j < k → ∃ d, q[j]? = some d ∧ p d = true) (h2 : q.length = k ∨ ∃ d, q[k]? = some d ∧ p d = false) : runL p q = k := by
  obtain ⟨h3, h4⟩ := runL_at p q
  rcases Nat.lt_trichotomy (runL p q) k with h | h | h
  · obtain ⟨d, hd, hp⟩ := h1 _ h
    rcases h4 with h4 | ⟨d', hd', hp'⟩
    · rw [List.getElem?_eq_none (by omega)] at hd
      cases hd
    · rw [hd] at hd'
      cases hd'
      rw [hp] at hp'
      cases hp'
  · exact h
  · obtain ⟨d, hd, hp⟩ := h3 _ h
    rcases h2 with h2 | ⟨d', hd', hp'⟩
    · rw [List.getElem?_eq_none (by omega)] at hd
      cases hd
    · rw [hd] at hd'
      cases hd'
      rw [hp] at hp'
      cases hp'
end Go.Proofs.YtlgfijjkbomejaaGreatDoor

/- THE CODE's lexer: what stands between tokens, words, numbers. Numbers and types by name. -/
namespace Go.Proofs.YtlgfijjkbomejaaGreatDoor
open Go.RowKit Go.Lib
set_option maxRecDepth 100000

theorem slice_tx0 {l : List UInt8} {j : Nat} {o : List UInt8} (h2 : j ≤ l.length) (ho : l.take j = o) {b : Int} (hb : b = j) (w : World) :
    Sem.run Tryz.prog (Instr.slice 9 (.string (tx l)) none (some (.int .i64 b)) none) w = .ok (.string (tx o)) w := by
  subst hb
  rw [run_slice_string_to_if w _ _ _ _ (by kernel_rfl), if_pos ⟨by omega, by rw [tx_size]; omega⟩, tx_cut]
  rw [Int.toNat_natCast, List.drop_zero, Nat.sub_zero, ho]
theorem slice_txF {l : List UInt8} {i : Nat} (h2 : i ≤ l.length) {a : Int} (ha : a = i) (w : World) :
    Sem.run Tryz.prog (Instr.slice 9 (.string (tx l)) (some (.int .i64 a)) none none) w = .ok (.string (tx (l.drop i))) w := by
  subst ha
  rw [run_slice_string_from_if w _ _ _ _ (by kernel_rfl), if_pos ⟨by omega, by rw [tx_size]; omega⟩, tx_cut]
  rw [Int.toNat_natCast, tx_size, List.take_of_length_le (by rw [List.length_drop]; omega)]

/-- How many bytes stand ahead of a token: a remark's, or blanks'. -/
def gapL : List UInt8 → Nat
  | [] => 0
  | c :: r => if c = 35 then runL (fun x => x != 10) (c :: r) else runL isSpc (c :: r)
/-- What first tells of the token that stands there. -/
def FirstT (S : LStep) (e : Ending) : Prop :=
  match S with
  | .skip _ => False
  | .tok k n => e = .returned (.tuple #[.int .i64 k, .int .i64 (n : Nat), .int .i64 0])
  | .bad x => e = .returned (.tuple #[.int .i64 0, .int .i64 0, .int .i64 x])
theorem runL_cons {p : UInt8 → Bool} {c : UInt8} (h : p c = true) (r : List UInt8) : runL p (c :: r) = 1 + runL p r := by
  unfold runL
  rw [List.takeWhile_cons, if_pos h, List.length_cons, Nat.add_comm]
theorem let_wrd {c : UInt8} (h : isLet c = true) : isWrd c = true := by
  unfold isWrd
  rw [h]
  rfl
def wordS (c : UInt8) (r : List UInt8) : LStep := if 20 < 1 + runL isWrd r then .bad 9 else .tok (if keysL.contains ((c :: r).take (1 + runL isWrd r)) = true then 3 else 1) (1 + runL isWrd r)
def numS (c : UInt8) (r : List UInt8) : LStep :=
  if 9 < 1 + runL isDig r then .bad 9
  else if (1 < 1 + runL isDig r ∧ c = 48) ∨ afterL (r.drop (runL isDig r)) = true then .bad 10 else .tok 2 (1 + runL isDig r)
end Go.Proofs.YtlgfijjkbomejaaGreatDoor

namespace Go.Proofs.YtlgfijjkbomejaaGreatDoor
open Go.RowKit Go.Lib
set_option maxRecDepth 100000

def signs19 : List (List UInt8) := [[61, 61], [60, 61], [45, 62], [40], [41], [123], [125], [44], [59], [58], [46], [61], [60], [43], [45], [42], [47], [37], [33]]
def txData {H : Type} (zs : List (List UInt8)) : DataW H := .agg (zs.map fun z => .lit (.string z))
theorem tx_of {s : ByteArray} {z : List UInt8} (h : s.data.toList = z) : s = tx z := by
  subst h
  rfl
theorem cells_of_txs {H : Type} {enc : TypeId × Value → H} {P : Program} {w : World} {base : Nat} {sp : Nat → Bool} {held : Bool} {fuel : Nat} {t e : TypeId} {n : Nat} {cs : List Value} {zs : List (List UInt8)} {p : List MemPlace}
    (ht : P.underlying t = some (.array n e)) (he : P.underlying e = some .string) (hce : P.cellsOf e = 1) (hct : P.cellsOf t = n)
    (h : DataW.trod enc P w base sp held fuel t cs = some (txData zs, p)) : cs = zs.map fun z => Value.string (tx z) := by
  cases fuel with
  | zero => simp [DataW.trod] at h
  | succ fuel =>
    simp only [DataW.trod, ht, hce, hct, Nat.mul_one] at h
    split at h
    · rename_i hl
      obtain ⟨xs, hm, hx⟩ := Option.map_eq_some_iff.1 h
      have hxs : xs.map (·.1) = zs.map fun z => (DataW.lit (.string z) : DataW H) := by
        have := congrArg Prod.fst hx
        simpa [txData] using this
      have hxl : xs.length = n := by simpa using mapM_length hm
      have hzl : zs.length = n := by
        have := congrArg List.length hxs
        simp at this
        omega
      apply List.ext_getElem?
      intro i
      by_cases hi : i < n
      · obtain ⟨b, hb, hf⟩ := mapM_at hm i i (by simp [hi])
        obtain ⟨z, hc, rfl, _⟩ := DataW.trod_string he hf
        have h1 : cs[i]? = some (.string z) := by
          have := congrArg (·[0]?) hc
          simpa [List.getElem?_take, List.getElem?_drop] using this
        have h2 : (xs.map (·.1))[i]? = some (DataW.lit (.string z.data.toList) : DataW H) := by simp [hb]
        rw [hxs] at h2
        simp only [List.getElem?_map, Option.map_eq_some_iff, DataW.lit.injEq, Lit.string.injEq] at h2
        obtain ⟨z', hz', h3⟩ := h2
        rw [h1, List.getElem?_map, hz', Option.map_some, tx_of h3.symm]
      · rw [List.getElem?_eq_none (by omega), List.getElem?_eq_none (by simp; omega)]
    · cases h

/-- The signs lie as the program's text lays them. -/
def SgW (w : World) : Prop := w.var? Tryz.prog "aquifer/lex.signs" = some (signs19.map fun z => Value.string (tx z)).toArray
theorem SgW.later {w w' : World} (h : SgW w) (hg : Grow w w') : SgW w' := by
  unfold SgW World.var? at *
  generalize Tryz.prog.globalNamed "aquifer/lex.signs" = og at *
  cases og with
  | none => cases h
  | some g =>
    simp only [Option.bind_some] at h ⊢
    cases hx : w.heap[g]? with
    | none => rw [hx] at h; cases h
    | some o =>
      have hlt : g < w.heap.size := (Array.getElem?_eq_some_iff.1 hx).1
      rw [hg.block g hlt]
      exact h
theorem sgW_of_head {W : World} {rest : List (String × DataW Unit)} {g : Nat} {t e : TypeId} {n : Nat}
    (hg : Tryz.prog.globalNamed "aquifer/lex.signs" = some g) (hty : (Tryz.prog.globals[g]?).map (·.type) = some t) (ht : Tryz.prog.underlying t = some (.array n e)) (he : Tryz.prog.underlying e = some .string) (hce : Tryz.prog.cellsOf e = 1) (hct : Tryz.prog.cellsOf t = n)
    (h : laidMet Tryz.prog (("aquifer/lex.signs", txData signs19) :: rest) W) : SgW W := by
  obtain ⟨ps, ⟨g', t', cs, fuel, p, q, hg', ht', hvar, hd, _, _⟩, _⟩ := h
  obtain rfl := Option.some.inj (hg.symm.trans hg')
  obtain rfl := Option.some.inj (hty.symm.trans ht')
  unfold SgW
  rw [hvar, ← cells_of_txs ht he hce hct hd]

end Go.Proofs.YtlgfijjkbomejaaGreatDoor
