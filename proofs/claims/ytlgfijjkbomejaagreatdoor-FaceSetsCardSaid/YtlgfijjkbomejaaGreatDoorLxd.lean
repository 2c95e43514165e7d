/- The reference's lexer: numbers. Numbers and types by name. -/
import Derived.Test.YtlgfijjkbomejaaGreatDoorLxb
/- The reference's lexer: words. Numbers and types by name. -/
namespace Go.Proofs.YtlgfijjkbomejaaGreatDoor
open Go.RowKit Go.Lib
set_option maxRecDepth 100000

set_option maxRecDepth 1000000 in
set_option maxHeartbeats 4000000 in
theorem lexr_word (l : List UInt8) (w wr : World) (R : LexR) (K : Act → World → Prop) (hbig : ¬ 8192 < l.length) (n c0 k : Nat) (ao : Option Addr) (hk : k ≤ l.length) (hG : Hid (LexAt w wr l R k (.slice ao n c0) n)) (hlt : k < l.length) (c : UInt8) (r : List UInt8) (hd : l.drop k = c :: r) (s1 : ¬ isSpc c = true) (s2 : ¬ c = 35) (s3 : isLet c = true)
    (u2 u3 u4 u7 u8 u9 u10 u11 u15 u16 u17 u18 u19 u20 u21 u22 u23 u24 u25 u26 u27 u28 u29 u30 u31 u32 u33 u34 u35 u36 u37 u38 u39 u40 u41 u42 u43 u44 u45 u46 u47 u48 u49 u50 u51 u52 u53 u54 u55 u56 u57 u58 u59 u60 u61 u62 u63 u64 u65 u66 u67 u68 u69 u70 u71 u72 u73 u74 u75 u76 u77 u78 u79 u80 u81 u82 u83 u84 u85 u86 u87 u88 u89 u90 u91 u92 u93 u94 u95 u96 u97 u98 u99 u100 u101 u102 u103 u104 u105 u106 u107 u108 u109 u110 u111 u112 u113 u114 u115 u116 u117 u118 u119 u120 u121 u122 u123 u124 u125 u126 u127 u128 u129 u130 u131 u132 u133 u134 u135 u136 u137 u138 u139 u140 u141 u142 u143 u144 u145 u146 u147 u148 u149 u150 u151 u152 u153 u154 u155 u156 u157 u158 u159 u160 u161 u162 u163 u164 u165 u166 u167 u168 u169 u170 u171 u172 u173 u174 u175 u176 : Value) : Code.wp Tryz.prog lexBody (Exit.then (fun a' w' => (∃ u2 u3 u4 u5 u6 u7 u8 u9 u10 u11 u15 u16 u17 u18 u19 u20 u21 u22 u23 u24 u25 u26 u27 u28 u29 u30 u31 u32 u33 u34 u35 u36 u37 u38 u39 u40 u41 u42 u43 u44 u45 u46 u47 u48 u49 u50 u51 u52 u53 u54 u55 u56 u57 u58 u59 u60 u61 u62 u63 u64 u65 u66 u67 u68 u69 u70 u71 u72 u73 u74 u75 u76 u77 u78 u79 u80 u81 u82 u83 u84 u85 u86 u87 u88 u89 u90 u91 u92 u93 u94 u95 u96 u97 u98 u99 u100 u101 u102 u103 u104 u105 u106 u107 u108 u109 u110 u111 u112 u113 u114 u115 u116 u117 u118 u119 u120 u121 u122 u123 u124 u125 u126 u127 u128 u129 u130 u131 u132 u133 u134 u135 u136 u137 u138 u139 u140 u141 u142 u143 u144 u145 u146 u147 u148 u149 u150 u151 u152 u153 u154 u155 u156 u157 u158 u159 u160 u161 u162 u163 u164 u165 u166 u167 u168 u169 u170 u171 u172 u173 u174 u175 u176 : Value, (∃ (n c k : Nat) (ao : Option Addr), k ≤ l.length ∧ u6 = .int .i64 (k : Int) ∧ u5 = .slice ao n c ∧ Hid (LexAt w w' l R k (.slice ao n c) n)) ∧ a' = ⟨#[.string (tx l), undef, u2, u3, u4, u5, u6, u7, u8, u9, u10, u11, .string (tx l), .int .i64 (l.length : Int), .bool false, u15, u16, u17, u18, u19, u20, u21, u22, u23, u24, u25, u26, u27, u28, u29, u30, u31, u32, u33, u34, u35, u36, u37, u38, u39, u40, u41, u42, u43, u44, u45, u46, u47, u48, u49, u50, u51, u52, u53, u54, u55, u56, u57, u58, u59, u60, u61, u62, u63, u64, u65, u66, u67, u68, u69, u70, u71, u72, u73, u74, u75, u76, u77, u78, u79, u80, u81, u82, u83, u84, u85, u86, u87, u88, u89, u90, u91, u92, u93, u94, u95, u96, u97, u98, u99, u100, u101, u102, u103, u104, u105, u106, u107, u108, u109, u110, u111, u112, u113, u114, u115, u116, u117, u118, u119, u120, u121, u122, u123, u124, u125, u126, u127, u128, u129, u130, u131, u132, u133, u134, u135, u136, u137, u138, u139, u140, u141, u142, u143, u144, u145, u146, u147, u148, u149, u150, u151, u152, u153, u154, u155, u156, u157, u158, u159, u160, u161, u162, u163, u164, u165, u166, u167, u168, u169, u170, u171, u172, u173, u174, u175, u176, undef, undef, undef, undef, undef, undef], []⟩) ∧ l.length - (RowKit.intOf (a'.tmps.getD 6 undef)).toNat < l.length - (RowKit.intOf ((#[.string (tx l), undef, u2, u3, u4, .slice ao n c0, .int .i64 (k : Int), u7, u8, u9, u10, u11, .string (tx l), .int .i64 (l.length : Int), .bool false, u15, u16, u17, u18, u19, u20, u21, u22, u23, u24, u25, u26, u27, u28, u29, u30, u31, u32, u33, u34, u35, u36, u37, u38, u39, u40, u41, u42, u43, u44, u45, u46, u47, u48, u49, u50, u51, u52, u53, u54, u55, u56, u57, u58, u59, u60, u61, u62, u63, u64, u65, u66, u67, u68, u69, u70, u71, u72, u73, u74, u75, u76, u77, u78, u79, u80, u81, u82, u83, u84, u85, u86, u87, u88, u89, u90, u91, u92, u93, u94, u95, u96, u97, u98, u99, u100, u101, u102, u103, u104, u105, u106, u107, u108, u109, u110, u111, u112, u113, u114, u115, u116, u117, u118, u119, u120, u121, u122, u123, u124, u125, u126, u127, u128, u129, u130, u131, u132, u133, u134, u135, u136, u137, u138, u139, u140, u141, u142, u143, u144, u145, u146, u147, u148, u149, u150, u151, u152, u153, u154, u155, u156, u157, u158, u159, u160, u161, u162, u163, u164, u165, u166, u167, u168, u169, u170, u171, u172, u173, u174, u175, u176, undef, undef, undef, undef, undef, undef] : Array Value).getD 6 undef)).toNat) (Exit.inBlock 0 (Exit.then K (bodyPost Tryz.prog Tryz.f27 (LexTold w R))))) ⟨#[.string (tx l), undef, u2, u3, u4, .slice ao n c0, .int .i64 (k : Int), u7, u8, u9, u10, u11, .string (tx l), .int .i64 (l.length : Int), .bool false, u15, u16, u17, u18, u19, u20, u21, u22, u23, u24, u25, u26, u27, u28, u29, u30, u31, u32, u33, u34, u35, u36, u37, u38, u39, u40, u41, u42, u43, u44, u45, u46, u47, u48, u49, u50, u51, u52, u53, u54, u55, u56, u57, u58, u59, u60, u61, u62, u63, u64, u65, u66, u67, u68, u69, u70, u71, u72, u73, u74, u75, u76, u77, u78, u79, u80, u81, u82, u83, u84, u85, u86, u87, u88, u89, u90, u91, u92, u93, u94, u95, u96, u97, u98, u99, u100, u101, u102, u103, u104, u105, u106, u107, u108, u109, u110, u111, u112, u113, u114, u115, u116, u117, u118, u119, u120, u121, u122, u123, u124, u125, u126, u127, u128, u129, u130, u131, u132, u133, u134, u135, u136, u137, u138, u139, u140, u141, u142, u143, u144, u145, u146, u147, u148, u149, u150, u151, u152, u153, u154, u155, u156, u157, u158, u159, u160, u161, u162, u163, u164, u165, u166, u167, u168, u169, u170, u171, u172, u173, u174, u175, u176, undef, undef, undef, undef, undef, undef], []⟩ wr := by
  conv => arg 2; whnf
  have hsz := tx_size l
  have hb : ¬ (8192 : Int) < (l.length : Int) := by omega
  have HL := Lib.hid hbig
  have h3 : (k : Int) < (l.length : Int) := by omega
  obtain ⟨hc, hr, _⟩ := drop_at hd
  have hb1 := tx_at hc (by rw [hsz]; exact hlt)
  have HD := Lib.hid (And.intro hd (And.intro hc hr))
  clear hd hc hr
  have f0 := s1
  rw [spc_int] at f0
  simp only [Bool.or_eq_true, not_or, Bool.not_eq_true] at f0
  obtain ⟨⟨⟨f1, f2⟩, f3⟩, f4⟩ := f0
  have f5 : ((c.toNat : Int) == 35) = false := ne_int s2
  obtain ⟨N, hN⟩ : ∃ N, N = 1 + runL isWrd r := ⟨_, rfl⟩
  have hNr := runL_le isWrd r
  have hrl := congrArg List.length HD.out.2.2
  rw [List.length_drop] at hrl
  have HRN := Lib.hid (runL_at isWrd r)
  have hkN : k + N ≤ l.length := by omega
  have hS : stepL (c :: r) = if 20 < N then .bad 9 else .tok (if keysL.contains ((c :: r).take N) = true then 3 else 1) N := by
    rw [hN]
    exact (if_neg s1).trans ((if_neg s2).trans (if_pos s3))
  have HX := Lib.hid (And.intro hrl (And.intro hkN (And.intro hS hN)))
  have HCUT := Lib.hid (slice_tx (l := l) (i := k) (j := k + N) (o := (c :: r).take N) (by omega) hkN (by rw [HD.out.1, Nat.add_sub_cancel_left]) (a := (k : Int)) (b := (k : Int) + (N : Int)) rfl (by omega))
  clear s1 s2 hS hNr hrl hkN hN
  go_upto_block 5 with (first | (go_at_call 61; refine (ref_letter _ _).mono ?_; rintro e w' ⟨rfl, rfl⟩) | (go_at_call 62; refine (ref_digit _ _).mono ?_; rintro e w' ⟨rfl, rfl⟩))
  go_cut [8] from 15 to 176 (fun s8 wx => wr = wx ∧ s8 = .int .i64 ((k + N : Nat) : Int))
  case first =>
    go_wp2_with fail
    go_loopw [8] (fun i wr2 => ∃ j : Nat, k ≤ j ∧ j ≤ k + N ∧ i = .int .i64 j ∧ wr = wr2)
      (fun i _ => l.length - (RowKit.intOf i).toNat)
    case atStart => exact ⟨k, Nat.le_refl _, by omega, rfl, rfl⟩
    case round =>
      obtain ⟨j, hj1, hj2, rfl, rfl⟩ := hrel
      by_cases hj3 : j < k + N
      · have h4 : (j : Int) < (l.length : Int) := by have := HX.out.2.1; omega
        obtain ⟨d, hd, hd2⟩ : ∃ d, l[j]? = some d ∧ isWrd d = true := by
          by_cases hjk : j = k
          · exact ⟨c, by rw [hjk]; exact HD.out.2.1, by unfold isWrd; rw [s3]; rfl⟩
          · obtain ⟨d, h5, h6⟩ := HRN.out.1 (j - (k + 1)) (by have := HX.out.2.2.2; omega)
            rw [← HD.out.2.2, List.getElem?_drop, show k + 1 + (j - (k + 1)) = j by omega] at h5
            exact ⟨d, h5, h6⟩
        have hb2 := tx_at hd (by rw [hsz]; omega)
        obtain ⟨B1, q1⟩ : ∃ B, isLet d = B := ⟨_, rfl⟩
        obtain ⟨B2, q2⟩ : ∃ B, isDig d = B := ⟨_, rfl⟩
        obtain ⟨B3, q3⟩ : ∃ B, ((d.toNat : Int) == 95) = B := ⟨_, rfl⟩
        have hB : (B1 || B2 || B3) = true := by rw [← q1, ← q2, ← q3, ← us_int]; exact hd2
        have HB := Lib.hid hB
        clear hd hd2 hB
        have hwr : wrap64 ((j : Int) + 1) = ((j + 1 : Nat) : Int) := by rw [wrap64_id _ (by have := HL.out; omega)]; omega
        cases B1 with
        | true =>
          go_wp2_with (first | (go_at_call 61; refine (ref_letter _ _).mono ?_; rintro e w' ⟨rfl, rfl⟩) | (go_at_call 62; refine (ref_digit _ _).mono ?_; rintro e w' ⟨rfl, rfl⟩))
          exact ⟨⟨j + 1, by omega, by omega, by go_num, trivial⟩, by simp [RowKit.intOf]; omega⟩
        | false =>
          cases B2 with
          | true =>
            go_wp2_with (first | (go_at_call 61; refine (ref_letter _ _).mono ?_; rintro e w' ⟨rfl, rfl⟩) | (go_at_call 62; refine (ref_digit _ _).mono ?_; rintro e w' ⟨rfl, rfl⟩))
            exact ⟨⟨j + 1, by omega, by omega, by go_num, trivial⟩, by simp [RowKit.intOf]; omega⟩
          | false =>
            obtain rfl : B3 = true := by simpa using HB.out
            go_wp2_with (first | (go_at_call 61; refine (ref_letter _ _).mono ?_; rintro e w' ⟨rfl, rfl⟩) | (go_at_call 62; refine (ref_digit _ _).mono ?_; rintro e w' ⟨rfl, rfl⟩))
            exact ⟨⟨j + 1, by omega, by omega, by go_num, trivial⟩, by simp [RowKit.intOf]; omega⟩
      · obtain rfl : j = k + N := by omega
        have hex : (¬ ((k + N : Nat) : Int) < (l.length : Int)) ∨ (((k + N : Nat) : Int) < (l.length : Int) ∧ ∃ d, l[k + N]? = some d ∧ isLet d = false ∧ isDig d = false ∧ ((d.toNat : Int) == 95) = false) := by
          have h6 := HX.out.2.2.2
          have h7 := HX.out.1
          rcases HRN.out.2 with hq | ⟨d, hq, hq2⟩
          · left
            omega
          · right
            have h8 := (List.getElem?_eq_some_iff.1 hq).1
            have hq9 : l[k + N]? = some d := by
              rw [show k + N = k + 1 + runL isWrd r by omega, ← List.getElem?_drop, HD.out.2.2]
              exact hq
            rw [us_int] at hq2
            simp only [Bool.or_eq_false_iff] at hq2
            exact ⟨by omega, d, hq9, hq2.1.1, hq2.1.2, hq2.2⟩
        rcases hex with h4 | ⟨h4, d, hd, q1, q2, q3⟩
        · go_wp2_with fail
          go_meet
          exact ⟨rfl, rfl⟩
        · have hb2 := tx_at hd (by rw [hsz]; omega)
          clear hd
          go_wp2_with (first | (go_at_call 61; refine (ref_letter _ _).mono ?_; rintro e w' ⟨rfl, rfl⟩) | (go_at_call 62; refine (ref_digit _ _).mono ?_; rintro e w' ⟨rfl, rfl⟩))
          go_meet
          exact ⟨rfl, rfl⟩
  case rest =>
    obtain ⟨rfl, rfl⟩ := hcut
    have hcut := HCUT.out
    obtain ⟨KB, qk⟩ : ∃ B, Hid (keysL.contains ((c :: r).take N) = B) := ⟨_, Lib.hid rfl⟩
    obtain ⟨acc, HAcc⟩ := hG.out
    have HA0 := Lib.hid HAcc
    have FL : Hid (n + 1 ≤ 1000000) := Lib.hid (by have := HAcc.1.1; have := HAcc.2.2.2; have := HL.out; omega)
    have hwr2 : wrap64 ((k : Int) + (N : Int) - (k : Int)) = (N : Int) := by rw [wrap64_id _ (by have := HL.out; have := HX.out.2.1; omega)]; omega
    have hwr3 : wrap64 (N : Int) = (N : Int) := wrap64_id _ (by have := HL.out; have := HX.out.2.1; omega)
    clear HAcc
    go_wp2_with fail
    refine (ref_keyB qk.out _).mono ?_
    rintro e w' ⟨rfl, rfl⟩
    by_cases h20 : 20 < N
    · have h21 : (20 : Int) < (N : Int) := by omega
      obtain ⟨hR9, hb9⟩ := hG.out.bad HD.out.1 (HX.out.2.2.1.trans (if_pos h20))
      have HB9 := Lib.hid (And.intro hR9 hb9)
      clear hR9 hb9 h20
      cases KB <;>
      · go_wp2_with fail
        go_ret3
        rw [HB9.out.1]
        exact ⟨none, 0, 0, rfl, Tkr.nil _, HB9.out.2⟩
    · have h21 : ¬ (20 : Int) < (N : Int) := by omega
      have HS := Lib.hid (HX.out.2.2.1.trans (if_neg h20))
      clear h20
      cases KB with
      | true =>
        have HS2 : Hid (stepL (c :: r) = .tok 3 N) := Lib.hid (by rw [HS.out, qk.out]; rfl)
        go_wp2_with (at_builtin; go_loud (refine wpList_append_gen elemTok rfl (.tmp 108) (.tmp 116) rfl w.heap.size _ n _ rfl (HA0.out.1.2.alloc _) _ 1 (tv ⟨3, (c :: r).take N, k⟩) rfl (tok_lit _ ⟨3, (c :: r).take N, k⟩) (tv_one _) (n + 1) rfl FL (by decide) (by have := HA0.out.2.1.size; simp; omega) ?_; intro ao6 c6 w6 hown6 hb6 _ _; have HA := Lib.hid (And.intro hown6 hb6); clear hown6 hb6))
        go_roundw
        case rel => exact ⟨n + 1, c6, k + N, ao6, HX.out.2.1, by go_num, rfl, Lib.hid (LexAt.tok HA0.out HD.out.1 HS2.out HA.out.1 HA.out.2)⟩
        case measure => have := HX.out.2.2.2; simp [RowKit.intOf]; omega
      | false =>
        have HS2 : Hid (stepL (c :: r) = .tok 1 N) := Lib.hid (by rw [HS.out, qk.out]; rfl)
        go_wp2_with (at_builtin; go_loud (refine wpList_append_gen elemTok rfl (.tmp 108) (.tmp 116) rfl w.heap.size _ n _ rfl (HA0.out.1.2.alloc _) _ 1 (tv ⟨1, (c :: r).take N, k⟩) rfl (tok_lit _ ⟨1, (c :: r).take N, k⟩) (tv_one _) (n + 1) rfl FL (by decide) (by have := HA0.out.2.1.size; simp; omega) ?_; intro ao6 c6 w6 hown6 hb6 _ _; have HA := Lib.hid (And.intro hown6 hb6); clear hown6 hb6))
        go_roundw
        case rel => exact ⟨n + 1, c6, k + N, ao6, HX.out.2.1, by go_num, rfl, Lib.hid (LexAt.tok HA0.out HD.out.1 HS2.out HA.out.1 HA.out.2)⟩
        case measure => have := HX.out.2.2.2; simp [RowKit.intOf]; omega

end Go.Proofs.YtlgfijjkbomejaaGreatDoor

namespace Go.Proofs.YtlgfijjkbomejaaGreatDoor
open Go.RowKit Go.Lib
set_option maxRecDepth 100000

set_option maxRecDepth 1000000 in
set_option maxHeartbeats 4000000 in
theorem lexr_number (l : List UInt8) (w wr : World) (R : LexR) (K : Act → World → Prop) (hbig : ¬ 8192 < l.length) (n c0 k : Nat) (ao : Option Addr) (hk : k ≤ l.length) (hG : Hid (LexAt w wr l R k (.slice ao n c0) n)) (hlt : k < l.length) (c : UInt8) (r : List UInt8) (hd : l.drop k = c :: r) (s1 : ¬ isSpc c = true) (s2 : ¬ c = 35) (s3 : ¬ isLet c = true) (s4 : isDig c = true)
    (u2 u3 u4 u7 u8 u9 u10 u11 u15 u16 u17 u18 u19 u20 u21 u22 u23 u24 u25 u26 u27 u28 u29 u30 u31 u32 u33 u34 u35 u36 u37 u38 u39 u40 u41 u42 u43 u44 u45 u46 u47 u48 u49 u50 u51 u52 u53 u54 u55 u56 u57 u58 u59 u60 u61 u62 u63 u64 u65 u66 u67 u68 u69 u70 u71 u72 u73 u74 u75 u76 u77 u78 u79 u80 u81 u82 u83 u84 u85 u86 u87 u88 u89 u90 u91 u92 u93 u94 u95 u96 u97 u98 u99 u100 u101 u102 u103 u104 u105 u106 u107 u108 u109 u110 u111 u112 u113 u114 u115 u116 u117 u118 u119 u120 u121 u122 u123 u124 u125 u126 u127 u128 u129 u130 u131 u132 u133 u134 u135 u136 u137 u138 u139 u140 u141 u142 u143 u144 u145 u146 u147 u148 u149 u150 u151 u152 u153 u154 u155 u156 u157 u158 u159 u160 u161 u162 u163 u164 u165 u166 u167 u168 u169 u170 u171 u172 u173 u174 u175 u176 : Value) : Code.wp Tryz.prog lexBody (Exit.then (fun a' w' => (∃ u2 u3 u4 u5 u6 u7 u8 u9 u10 u11 u15 u16 u17 u18 u19 u20 u21 u22 u23 u24 u25 u26 u27 u28 u29 u30 u31 u32 u33 u34 u35 u36 u37 u38 u39 u40 u41 u42 u43 u44 u45 u46 u47 u48 u49 u50 u51 u52 u53 u54 u55 u56 u57 u58 u59 u60 u61 u62 u63 u64 u65 u66 u67 u68 u69 u70 u71 u72 u73 u74 u75 u76 u77 u78 u79 u80 u81 u82 u83 u84 u85 u86 u87 u88 u89 u90 u91 u92 u93 u94 u95 u96 u97 u98 u99 u100 u101 u102 u103 u104 u105 u106 u107 u108 u109 u110 u111 u112 u113 u114 u115 u116 u117 u118 u119 u120 u121 u122 u123 u124 u125 u126 u127 u128 u129 u130 u131 u132 u133 u134 u135 u136 u137 u138 u139 u140 u141 u142 u143 u144 u145 u146 u147 u148 u149 u150 u151 u152 u153 u154 u155 u156 u157 u158 u159 u160 u161 u162 u163 u164 u165 u166 u167 u168 u169 u170 u171 u172 u173 u174 u175 u176 : Value, (∃ (n c k : Nat) (ao : Option Addr), k ≤ l.length ∧ u6 = .int .i64 (k : Int) ∧ u5 = .slice ao n c ∧ Hid (LexAt w w' l R k (.slice ao n c) n)) ∧ a' = ⟨#[.string (tx l), undef, u2, u3, u4, u5, u6, u7, u8, u9, u10, u11, .string (tx l), .int .i64 (l.length : Int), .bool false, u15, u16, u17, u18, u19, u20, u21, u22, u23, u24, u25, u26, u27, u28, u29, u30, u31, u32, u33, u34, u35, u36, u37, u38, u39, u40, u41, u42, u43, u44, u45, u46, u47, u48, u49, u50, u51, u52, u53, u54, u55, u56, u57, u58, u59, u60, u61, u62, u63, u64, u65, u66, u67, u68, u69, u70, u71, u72, u73, u74, u75, u76, u77, u78, u79, u80, u81, u82, u83, u84, u85, u86, u87, u88, u89, u90, u91, u92, u93, u94, u95, u96, u97, u98, u99, u100, u101, u102, u103, u104, u105, u106, u107, u108, u109, u110, u111, u112, u113, u114, u115, u116, u117, u118, u119, u120, u121, u122, u123, u124, u125, u126, u127, u128, u129, u130, u131, u132, u133, u134, u135, u136, u137, u138, u139, u140, u141, u142, u143, u144, u145, u146, u147, u148, u149, u150, u151, u152, u153, u154, u155, u156, u157, u158, u159, u160, u161, u162, u163, u164, u165, u166, u167, u168, u169, u170, u171, u172, u173, u174, u175, u176, undef, undef, undef, undef, undef, undef], []⟩) ∧ l.length - (RowKit.intOf (a'.tmps.getD 6 undef)).toNat < l.length - (RowKit.intOf ((#[.string (tx l), undef, u2, u3, u4, .slice ao n c0, .int .i64 (k : Int), u7, u8, u9, u10, u11, .string (tx l), .int .i64 (l.length : Int), .bool false, u15, u16, u17, u18, u19, u20, u21, u22, u23, u24, u25, u26, u27, u28, u29, u30, u31, u32, u33, u34, u35, u36, u37, u38, u39, u40, u41, u42, u43, u44, u45, u46, u47, u48, u49, u50, u51, u52, u53, u54, u55, u56, u57, u58, u59, u60, u61, u62, u63, u64, u65, u66, u67, u68, u69, u70, u71, u72, u73, u74, u75, u76, u77, u78, u79, u80, u81, u82, u83, u84, u85, u86, u87, u88, u89, u90, u91, u92, u93, u94, u95, u96, u97, u98, u99, u100, u101, u102, u103, u104, u105, u106, u107, u108, u109, u110, u111, u112, u113, u114, u115, u116, u117, u118, u119, u120, u121, u122, u123, u124, u125, u126, u127, u128, u129, u130, u131, u132, u133, u134, u135, u136, u137, u138, u139, u140, u141, u142, u143, u144, u145, u146, u147, u148, u149, u150, u151, u152, u153, u154, u155, u156, u157, u158, u159, u160, u161, u162, u163, u164, u165, u166, u167, u168, u169, u170, u171, u172, u173, u174, u175, u176, undef, undef, undef, undef, undef, undef] : Array Value).getD 6 undef)).toNat) (Exit.inBlock 0 (Exit.then K (bodyPost Tryz.prog Tryz.f27 (LexTold w R))))) ⟨#[.string (tx l), undef, u2, u3, u4, .slice ao n c0, .int .i64 (k : Int), u7, u8, u9, u10, u11, .string (tx l), .int .i64 (l.length : Int), .bool false, u15, u16, u17, u18, u19, u20, u21, u22, u23, u24, u25, u26, u27, u28, u29, u30, u31, u32, u33, u34, u35, u36, u37, u38, u39, u40, u41, u42, u43, u44, u45, u46, u47, u48, u49, u50, u51, u52, u53, u54, u55, u56, u57, u58, u59, u60, u61, u62, u63, u64, u65, u66, u67, u68, u69, u70, u71, u72, u73, u74, u75, u76, u77, u78, u79, u80, u81, u82, u83, u84, u85, u86, u87, u88, u89, u90, u91, u92, u93, u94, u95, u96, u97, u98, u99, u100, u101, u102, u103, u104, u105, u106, u107, u108, u109, u110, u111, u112, u113, u114, u115, u116, u117, u118, u119, u120, u121, u122, u123, u124, u125, u126, u127, u128, u129, u130, u131, u132, u133, u134, u135, u136, u137, u138, u139, u140, u141, u142, u143, u144, u145, u146, u147, u148, u149, u150, u151, u152, u153, u154, u155, u156, u157, u158, u159, u160, u161, u162, u163, u164, u165, u166, u167, u168, u169, u170, u171, u172, u173, u174, u175, u176, undef, undef, undef, undef, undef, undef], []⟩ wr := by
  conv => arg 2; whnf
  have hsz := tx_size l
  have hb : ¬ (8192 : Int) < (l.length : Int) := by omega
  have HL := Lib.hid hbig
  have h3 : (k : Int) < (l.length : Int) := by omega
  obtain ⟨hc, hr, _⟩ := drop_at hd
  have hb1 := tx_at hc (by rw [hsz]; exact hlt)
  have HD := Lib.hid (And.intro hd (And.intro hc hr))
  clear hd hc hr
  have f0 := s1
  rw [spc_int] at f0
  simp only [Bool.or_eq_true, not_or, Bool.not_eq_true] at f0
  obtain ⟨⟨⟨f1, f2⟩, f3⟩, f4⟩ := f0
  have f5 : ((c.toNat : Int) == 35) = false := ne_int s2
  have s3f : isLet c = false := by simpa using s3
  obtain ⟨N, hN⟩ : ∃ N, N = 1 + runL isDig r := ⟨_, rfl⟩
  have hNr := runL_le isDig r
  have hrl := congrArg List.length HD.out.2.2
  rw [List.length_drop] at hrl
  have HRN := Lib.hid (runL_at isDig r)
  have hkN : k + N ≤ l.length := by omega
  obtain ⟨B, hB⟩ : ∃ B, B = decide ((1 < N ∧ c = 48) ∨ afterL (l.drop (k + N)) = true) := ⟨_, rfl⟩
  have hS : stepL (c :: r) = if 9 < N then .bad 9 else if B = true then .bad 10 else .tok 2 N := by
    rw [hB]
    simp only [decide_eq_true_eq]
    rw [hN, show k + (1 + runL isDig r) = k + 1 + runL isDig r by omega, ← List.drop_drop, HD.out.2.2]
    exact (if_neg s1).trans ((if_neg s2).trans ((if_neg s3).trans (if_pos s4)))
  have HX := Lib.hid (And.intro hrl (And.intro hkN (And.intro hS hN)))
  have HBB := Lib.hid hB
  have HCUT := Lib.hid (slice_tx (l := l) (i := k) (j := k + N) (o := (c :: r).take N) (by omega) hkN (by rw [HD.out.1, Nat.add_sub_cancel_left]) (a := (k : Int)) (b := (k : Int) + (N : Int)) rfl (by omega))
  clear s1 s2 s3 hS hNr hrl hkN hN hB
  go_upto_block 7 with (first | (go_at_call 61; refine (ref_letter _ _).mono ?_; rintro e w' ⟨rfl, rfl⟩) | (go_at_call 62; refine (ref_digit _ _).mono ?_; rintro e w' ⟨rfl, rfl⟩))
  go_cut [10] from 15 to 176 (fun s10 wx => wr = wx ∧ s10 = .int .i64 ((k + N : Nat) : Int))
  case first =>
    go_wp2_with fail
    go_loopw [10] (fun i wr2 => ∃ j : Nat, k ≤ j ∧ j ≤ k + N ∧ i = .int .i64 j ∧ wr = wr2)
      (fun i _ => l.length - (RowKit.intOf i).toNat)
    case atStart => exact ⟨k, Nat.le_refl _, by omega, rfl, rfl⟩
    case round =>
      obtain ⟨j, hj1, hj2, rfl, rfl⟩ := hrel
      by_cases hj3 : j < k + N
      · have h4 : (j : Int) < (l.length : Int) := by have := HX.out.2.1; omega
        obtain ⟨d, hd, hd2⟩ : ∃ d, l[j]? = some d ∧ isDig d = true := by
          by_cases hjk : j = k
          · exact ⟨c, by rw [hjk]; exact HD.out.2.1, s4⟩
          · obtain ⟨d, h5, h6⟩ := HRN.out.1 (j - (k + 1)) (by have := HX.out.2.2.2; omega)
            rw [← HD.out.2.2, List.getElem?_drop, show k + 1 + (j - (k + 1)) = j by omega] at h5
            exact ⟨d, h5, h6⟩
        have hb2 := tx_at hd (by rw [hsz]; omega)
        clear hd
        go_wp2_with (first | (go_at_call 61; refine (ref_letter _ _).mono ?_; rintro e w' ⟨rfl, rfl⟩) | (go_at_call 62; refine (ref_digit _ _).mono ?_; rintro e w' ⟨rfl, rfl⟩))
        exact ⟨⟨j + 1, by omega, by omega, by go_num, trivial⟩, by simp [RowKit.intOf]; omega⟩
      · obtain rfl : j = k + N := by omega
        rcases HRN.out.2 with hq | ⟨d, hq, hq2⟩
        · have h4 : ¬ ((k + N : Nat) : Int) < (l.length : Int) := by have := HX.out.1; have := HX.out.2.2.2; omega
          clear hq
          go_wp2_with fail
          go_meet
          exact ⟨rfl, rfl⟩
        · have hq9 : l[k + N]? = some d := by
            rw [show k + N = k + 1 + runL isDig r by have := HX.out.2.2.2; omega, ← List.getElem?_drop, HD.out.2.2]
            exact hq
          have hlt9 := (List.getElem?_eq_some_iff.1 hq9).1
          have h4 : ((k + N : Nat) : Int) < (l.length : Int) := by omega
          have hb2 := tx_at hq9 (by rw [hsz]; omega)
          clear hq hq9
          go_wp2_with (first | (go_at_call 61; refine (ref_letter _ _).mono ?_; rintro e w' ⟨rfl, rfl⟩) | (go_at_call 62; refine (ref_digit _ _).mono ?_; rintro e w' ⟨rfl, rfl⟩))
          go_meet
          exact ⟨rfl, rfl⟩
  case rest =>
    obtain ⟨rfl, rfl⟩ := hcut
    obtain ⟨acc, HAcc⟩ := hG.out
    have HA0 := Lib.hid HAcc
    have FL : Hid (n + 1 ≤ 1000000) := Lib.hid (by have := HAcc.1.1; have := HAcc.2.2.2; have := HL.out; omega)
    have hwr2 : wrap64 ((k : Int) + (N : Int) - (k : Int)) = (N : Int) := by rw [wrap64_id _ (by have := HL.out; have := HX.out.2.1; omega)]; omega
    have hwr3 : wrap64 (N : Int) = (N : Int) := wrap64_id _ (by have := HL.out; have := HX.out.2.1; omega)
    clear HAcc
    by_cases h9 : 9 < N
    · have h21 : (9 : Int) < (N : Int) := by omega
      obtain ⟨hR9, hb9⟩ := hG.out.bad HD.out.1 (HX.out.2.2.1.trans (if_pos h9))
      have HB9 := Lib.hid (And.intro hR9 hb9)
      clear hR9 hb9 h9
      go_wp2_with fail
      go_ret3
      rw [HB9.out.1]
      exact ⟨none, 0, 0, rfl, Tkr.nil _, HB9.out.2⟩
    have h21 : ¬ (9 : Int) < (N : Int) := by omega
    have HS := Lib.hid (HX.out.2.2.1.trans (if_neg h9))
    clear h9
    go_upto_region 34 with fail
    go_cut [165] from 15 to 176 (fun s165 wx => wr = wx ∧ s165 = .bool B)
    case first =>
      have tell : ∀ x : Bool, (x = true ↔ ((1 < N ∧ c = 48) ∨ afterL (l.drop (k + N)) = true)) → Value.bool x = Value.bool B := fun x hx => by
        rw [HBB.out]
        congr 1
        rw [Bool.eq_iff_iff, decide_eq_true_eq]
        exact hx
      have HT := Lib.hid tell
      clear tell
      by_cases z1 : 1 < N ∧ c = 48
      · have z2 : (1 : Int) < (N : Int) := by have := z1.1; omega
        have z4 : ((c.toNat : Int) == 48) = true := by rw [z1.2]; rfl
        have HZ := Lib.hid z1
        clear z1
        go_wp2_with (first | (go_at_call 61; refine (ref_letter _ _).mono ?_; rintro e w' ⟨rfl, rfl⟩) | (go_at_call 62; refine (ref_digit _ _).mono ?_; rintro e w' ⟨rfl, rfl⟩))
        go_meet
        exact ⟨rfl, HT.out _ ⟨fun _ => .inl HZ.out, fun _ => rfl⟩⟩
      · have HZ := Lib.hid z1
        have hzz : (¬ (1 : Int) < (N : Int)) ∨ ((1 : Int) < (N : Int) ∧ ((c.toNat : Int) == 48) = false) := by
          by_cases z2 : 1 < N
          · exact .inr ⟨by omega, ne_int fun h => z1 ⟨z2, h⟩⟩
          · exact .inl (by omega)
        clear z1
        have hex : (¬ ((k + N : Nat) : Int) < (l.length : Int) ∧ afterL (l.drop (k + N)) = false) ∨ (((k + N : Nat) : Int) < (l.length : Int) ∧ ∃ d B1 B3, l[k + N]? = some d ∧ isLet d = B1 ∧ ((d.toNat : Int) == 95) = B3 ∧ afterL (l.drop (k + N)) = (B1 || B3)) := by
          by_cases h : k + N < l.length
          · refine .inr ⟨by omega, l[k + N], _, _, List.getElem?_eq_getElem h, rfl, rfl, ?_⟩
            rw [List.drop_eq_getElem_cons h]
            exact us_one _
          · refine .inl ⟨by omega, ?_⟩
            rw [List.drop_eq_nil_of_le (by omega)]
            rfl
        rcases hex with ⟨h4, haf⟩ | ⟨h4, d, B1, B3, hq9, q1, q3, haf⟩
        · have HAF := Lib.hid haf
          clear haf
          rcases hzz with z2 | ⟨z2, z4⟩ <;>
          · go_wp2_with (first | (go_at_call 61; refine (ref_letter _ _).mono ?_; rintro e w' ⟨rfl, rfl⟩) | (go_at_call 62; refine (ref_digit _ _).mono ?_; rintro e w' ⟨rfl, rfl⟩))
            go_meet
            exact ⟨rfl, HT.out _ ⟨fun h => (by cases h), fun h => (h.elim (fun h => absurd h HZ.out) (fun h => by rw [HAF.out] at h; cases h))⟩⟩
        · have hb2 := tx_at hq9 (by rw [hsz]; omega)
          have HAF := Lib.hid haf
          clear haf hq9
          rcases hzz with z2 | ⟨z2, z4⟩ <;> cases B1 <;> cases B3 <;>
          · go_wp2_with (first | (go_at_call 61; refine (ref_letter _ _).mono ?_; rintro e w' ⟨rfl, rfl⟩) | (go_at_call 62; refine (ref_digit _ _).mono ?_; rintro e w' ⟨rfl, rfl⟩))
            go_meet
            refine ⟨rfl, HT.out _ ?_⟩
            rw [HAF.out]
            simp [HZ.out]
    case rest =>
      obtain ⟨rfl, rfl⟩ := hcut
      cases B with
      | true =>
        obtain ⟨hR9, hb9⟩ := hG.out.bad HD.out.1 (HS.out.trans (if_pos rfl))
        have HB9 := Lib.hid (And.intro hR9 hb9)
        clear hR9 hb9
        go_wp2_with fail
        go_ret3
        rw [HB9.out.1]
        exact ⟨none, 0, 0, rfl, Tkr.nil _, HB9.out.2⟩
      | false =>
        have hcut := HCUT.out
        have HS2 : Hid (stepL (c :: r) = .tok 2 N) := Lib.hid (HS.out.trans (if_neg (by simp)))
        go_wp2_with (at_builtin; go_loud (refine wpList_append_gen elemTok rfl (.tmp 167) (.tmp 174) rfl w.heap.size _ n _ rfl (HA0.out.1.2.alloc _) _ 1 (tv ⟨2, (c :: r).take N, k⟩) rfl (tok_lit _ ⟨2, (c :: r).take N, k⟩) (tv_one _) (n + 1) rfl FL (by decide) (by have := HA0.out.2.1.size; simp; omega) ?_; intro ao6 c6 w6 hown6 hb6 _ _; have HA := Lib.hid (And.intro hown6 hb6); clear hown6 hb6))
        go_roundw
        case rel => exact ⟨n + 1, c6, k + N, ao6, HX.out.2.1, by go_num, rfl, Lib.hid (LexAt.tok HA0.out HD.out.1 HS2.out HA.out.1 HA.out.2)⟩
        case measure => have := HX.out.2.2.2; simp [RowKit.intOf]; omega

end Go.Proofs.YtlgfijjkbomejaaGreatDoor
