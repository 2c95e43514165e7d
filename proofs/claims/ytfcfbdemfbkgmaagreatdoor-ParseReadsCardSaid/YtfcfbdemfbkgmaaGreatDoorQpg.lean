/- The code's comparison, prefix and unary, over what they are asked of; expr. Numbers and types by name. -/
import Derived.Shelf.Strconv.Atoi
import Derived.Test.YtfcfbdemfbkgmaaGreatDoorProg
import Derived.Test.YtfcfbdemfbkgmaaGreatDoorPao
import Derived.Test.YtfcfbdemfbkgmaaGreatDoorQpf
/-
  DERIVED: THE SHELF's CONTRACTS AT THIS DUMP, IN PLAIN WORDS (tools/lay-plain.mjs out of 'YtfcfbdemfbkgmaaGreatDoorLat.lean', which tools/lay-shelf.mjs wrote): THE SAME DECLARATIONS UNDER THE SAME NAMES: 'import', 'namespace', 'open', 'def', 'theorem' AND NOTHING ELSE: no command of the shelf's: FOR A HAND-IN. Each laying: the table of numbers ('.._ren') and one theorem, a field a fact of the dump's own or the kernel's comparison; each contract: ONE APPLICATION.
-/
namespace Go.Proofs
open Go.Shelf
def Tryz.lays244_ren : Go.Shelf.Ren := ⟨fun | 244 => 128 | 247 => 144 | 287 => 161 | 321 => 179 | 322 => 180 | n => n, fun | 9 => 9 | 3 => 3 | 75 => 142 | 4 => 4 | 5 => 5 | 167 => 165 | 37 => 78 | 0 => 0 | 85 => 166 | 2 => 2 | 53 => 122 | 175 => 178 | 46 => 180 | 21 => 21 | 80 => 71 | n => n, fun | n => n⟩
theorem Tryz.lays244 : Go.Proofs.Lays.n244 Tryz.prog Tryz.lays244_ren := {
  mixed := by kernel_rfl
  f244 := Tryz.func128.trans (congrArg some (by kernel_rfl))
  f247 := Tryz.func144.trans (congrArg some (by kernel_rfl))
  f287 := Tryz.func161.trans (congrArg some (by kernel_rfl))
  f321 := Tryz.func179.trans (congrArg some (by kernel_rfl))
  f322 := Tryz.func180.trans (congrArg some (by kernel_rfl))
  t0 := Tryz.underlying0
  a0 := Tryz.isAgg0
  z0 := Tryz.sizeOf0
  v0 := Tryz.zeroValue0
  t2 := Tryz.underlying2
  a2 := Tryz.isAgg2
  z2 := Tryz.sizeOf2
  v2 := Tryz.zeroValue2
  t3 := Tryz.underlying3
  a3 := Tryz.isAgg3
  z3 := Tryz.sizeOf3
  v3 := Tryz.zeroValue3
  t4 := Tryz.underlying4
  a4 := Tryz.isAgg4
  z4 := Tryz.sizeOf4
  v4 := Tryz.zeroValue4
  t5 := Tryz.underlying5
  a5 := Tryz.isAgg5
  z5 := Tryz.sizeOf5
  v5 := Tryz.zeroValue5
  t9 := Tryz.underlying9
  a9 := Tryz.isAgg9
  z9 := Tryz.sizeOf9
  v9 := Tryz.zeroValue9
  t21 := Tryz.underlying21
  a21 := Tryz.isAgg21
  z21 := Tryz.sizeOf21
  v21 := Tryz.zeroValue21
  t37 := Tryz.underlying78
  a37 := Tryz.isAgg78
  z37 := Tryz.sizeOf78
  v37 := Tryz.zeroValue78
  t46 := Tryz.underlying180
  a46 := Tryz.isAgg180
  z46 := Tryz.sizeOf180
  v46 := Tryz.zeroValue180
  t53 := Tryz.underlying122
  a53 := Tryz.isAgg122
  z53 := Tryz.sizeOf122
  v53 := Tryz.zeroValue122
  t75 := Tryz.underlying142
  a75 := Tryz.isAgg142
  z75 := Tryz.sizeOf142
  v75 := Tryz.zeroValue142
  t85 := Tryz.underlying166
  a85 := Tryz.isAgg166
  z85 := Tryz.sizeOf166
  v85 := Tryz.zeroValue166
  t167 := Tryz.underlying165
  a167 := Tryz.isAgg165
  z167 := Tryz.sizeOf165
  v167 := Tryz.zeroValue165
  t175 := Tryz.underlying178
  a175 := Tryz.isAgg178
  z175 := Tryz.sizeOf178
  v175 := Tryz.zeroValue178 }
open Go.RowKit in
/-- internal/strconv.Atoi, at a decimal numeral of at most 18 bytes: ITS VALUE, AND NO ERROR. The world behind the call: the one new row that '[]byte(s)' lays. (LAID: no walk: one application.) -/
theorem Tryz.internal_strconv_Atoi (s : ByteArray) (n : Int) (hl : s.size ≤ 18) (h : Lib.atoi s.data.toList = some n) (w : World) :
    Calls Tryz.prog 128 #[.string s] w fun e w' => e = .returned (.tuple #[.int .i64 n, .nilIface]) ∧ ∃ t, w' = Lib.bytesWorld w 5 t := Any.internal_strconv_Atoi Tryz.lays244 s n hl h w
def Tryz.lays172_ren : Go.Shelf.Ren := ⟨fun | 172 => 114 | 244 => 128 | 245 => 129 | 247 => 144 | 279 => 145 | 280 => 146 | 281 => 147 | 282 => 148 | 287 => 161 | 316 => 162 | 171 => 121 | 205 => 163 | 321 => 179 | 322 => 180 | 243 => 135 | 246 => 155 | 283 => 168 | 284 => 169 | 285 => 170 | 286 => 171 | 129 => 184 | 317 => 183 | 318 => 185 | 319 => 186 | 320 => 187 | 337 => 189 | 338 => 190 | n => n, fun | 9 => 9 | 3 => 3 | 75 => 142 | 76 => 143 | 4 => 4 | 5 => 5 | 167 => 165 | 37 => 78 | 0 => 0 | 85 => 166 | 2 => 2 | 168 => 168 | 53 => 122 | 175 => 178 | 46 => 180 | 210 => 182 | 127 => 200 | 145 => 203 | 143 => 201 | 21 => 21 | 171 => 186 | 173 => 189 | 212 => 205 | 51 => 206 | 20 => 20 | 213 => 207 | 232 => 212 | 233 => 213 | 80 => 71 | n => n, fun | 15 => 1 | 16 => 2 | 17 => 3 | 18 => 4 | 19 => 5 | n => n⟩
theorem Tryz.lays172 : Go.Proofs.Lays.n172 Tryz.prog Tryz.lays172_ren := {
  mixed := by kernel_rfl
  f129 := Tryz.func184.trans (congrArg some (by kernel_rfl))
  f171 := Tryz.func121.trans (congrArg some (by kernel_rfl))
  f172 := Tryz.func114.trans (congrArg some (by kernel_rfl))
  f205 := Tryz.func163.trans (congrArg some (by kernel_rfl))
  f243 := Tryz.func135.trans (congrArg some (by kernel_rfl))
  f244 := Tryz.func128.trans (congrArg some (by kernel_rfl))
  f245 := Tryz.func129.trans (congrArg some (by kernel_rfl))
  f246 := Tryz.func155.trans (congrArg some (by kernel_rfl))
  f247 := Tryz.func144.trans (congrArg some (by kernel_rfl))
  f279 := Tryz.func145.trans (congrArg some (by kernel_rfl))
  f280 := Tryz.func146.trans (congrArg some (by kernel_rfl))
  f281 := Tryz.func147.trans (congrArg some (by kernel_rfl))
  f282 := Tryz.func148.trans (congrArg some (by kernel_rfl))
  f283 := Tryz.func168.trans (congrArg some (by kernel_rfl))
  f284 := Tryz.func169.trans (congrArg some (by kernel_rfl))
  f285 := Tryz.func170.trans (congrArg some (by kernel_rfl))
  f286 := Tryz.func171.trans (congrArg some (by kernel_rfl))
  f287 := Tryz.func161.trans (congrArg some (by kernel_rfl))
  f316 := Tryz.func162.trans (congrArg some (by kernel_rfl))
  f317 := Tryz.func183.trans (congrArg some (by kernel_rfl))
  f318 := Tryz.func185.trans (congrArg some (by kernel_rfl))
  f319 := Tryz.func186.trans (congrArg some (by kernel_rfl))
  f320 := Tryz.func187.trans (congrArg some (by kernel_rfl))
  f321 := Tryz.func179.trans (congrArg some (by kernel_rfl))
  f322 := Tryz.func180.trans (congrArg some (by kernel_rfl))
  f337 := Tryz.func189.trans (congrArg some (by kernel_rfl))
  f338 := Tryz.func190.trans (congrArg some (by kernel_rfl))
  t0 := Tryz.underlying0
  a0 := Tryz.isAgg0
  z0 := Tryz.sizeOf0
  v0 := Tryz.zeroValue0
  t2 := Tryz.underlying2
  a2 := Tryz.isAgg2
  z2 := Tryz.sizeOf2
  v2 := Tryz.zeroValue2
  t3 := Tryz.underlying3
  a3 := Tryz.isAgg3
  z3 := Tryz.sizeOf3
  v3 := Tryz.zeroValue3
  t4 := Tryz.underlying4
  a4 := Tryz.isAgg4
  z4 := Tryz.sizeOf4
  v4 := Tryz.zeroValue4
  t5 := Tryz.underlying5
  a5 := Tryz.isAgg5
  z5 := Tryz.sizeOf5
  v5 := Tryz.zeroValue5
  t9 := Tryz.underlying9
  a9 := Tryz.isAgg9
  z9 := Tryz.sizeOf9
  v9 := Tryz.zeroValue9
  t20 := Tryz.underlying20
  a20 := Tryz.isAgg20
  z20 := Tryz.sizeOf20
  v20 := Tryz.zeroValue20
  t21 := Tryz.underlying21
  a21 := Tryz.isAgg21
  z21 := Tryz.sizeOf21
  v21 := Tryz.zeroValue21
  t37 := Tryz.underlying78
  a37 := Tryz.isAgg78
  z37 := Tryz.sizeOf78
  v37 := Tryz.zeroValue78
  t46 := Tryz.underlying180
  a46 := Tryz.isAgg180
  z46 := Tryz.sizeOf180
  v46 := Tryz.zeroValue180
  t51 := Tryz.underlying206
  a51 := Tryz.isAgg206
  z51 := Tryz.sizeOf206
  v51 := Tryz.zeroValue206
  t53 := Tryz.underlying122
  a53 := Tryz.isAgg122
  z53 := Tryz.sizeOf122
  v53 := Tryz.zeroValue122
  t75 := Tryz.underlying142
  a75 := Tryz.isAgg142
  z75 := Tryz.sizeOf142
  v75 := Tryz.zeroValue142
  t76 := Tryz.underlying143
  a76 := Tryz.isAgg143
  z76 := Tryz.sizeOf143
  v76 := Tryz.zeroValue143
  t85 := Tryz.underlying166
  a85 := Tryz.isAgg166
  z85 := Tryz.sizeOf166
  v85 := Tryz.zeroValue166
  t127 := Tryz.underlying200
  a127 := Tryz.isAgg200
  z127 := Tryz.sizeOf200
  v127 := Tryz.zeroValue200
  t143 := Tryz.underlying201
  a143 := Tryz.isAgg201
  z143 := Tryz.sizeOf201
  v143 := Tryz.zeroValue201
  t145 := Tryz.underlying203
  a145 := Tryz.isAgg203
  z145 := Tryz.sizeOf203
  v145 := Tryz.zeroValue203
  t167 := Tryz.underlying165
  a167 := Tryz.isAgg165
  z167 := Tryz.sizeOf165
  v167 := Tryz.zeroValue165
  t168 := Tryz.underlying168
  a168 := Tryz.isAgg168
  z168 := Tryz.sizeOf168
  v168 := Tryz.zeroValue168
  t171 := Tryz.underlying186
  a171 := Tryz.isAgg186
  z171 := Tryz.sizeOf186
  v171 := Tryz.zeroValue186
  t173 := Tryz.underlying189
  a173 := Tryz.isAgg189
  z173 := Tryz.sizeOf189
  v173 := Tryz.zeroValue189
  t175 := Tryz.underlying178
  a175 := Tryz.isAgg178
  z175 := Tryz.sizeOf178
  v175 := Tryz.zeroValue178
  t210 := Tryz.underlying182
  a210 := Tryz.isAgg182
  z210 := Tryz.sizeOf182
  v210 := Tryz.zeroValue182
  t212 := Tryz.underlying205
  a212 := Tryz.isAgg205
  z212 := Tryz.sizeOf205
  v212 := Tryz.zeroValue205
  t213 := Tryz.underlying207
  a213 := Tryz.isAgg207
  z213 := Tryz.sizeOf207
  t232 := Tryz.underlying212
  a232 := Tryz.isAgg212
  z232 := Tryz.sizeOf212
  v232 := Tryz.zeroValue212
  t233 := Tryz.underlying213
  a233 := Tryz.isAgg213
  z233 := Tryz.sizeOf213
  v233 := Tryz.zeroValue213
  g15 := by kernel_rfl
  g16 := by kernel_rfl
  g17 := by kernel_rfl
  g18 := by kernel_rfl
  g19 := by kernel_rfl }
open Go.RowKit in
/-- strconv.Atoi: "Atoi is equivalent to ParseInt(s, 10, 0), converted to type int.": AT A DECIMAL NUMERAL OF AT MOST 18 BYTES: its value, and a nil error. The world behind the call: the one new row that the library's '[]byte(s)' lays. (LAID: no walk: one application.) -/
theorem Tryz.strconv_Atoi (s : ByteArray) (n : Int) (hl : s.size ≤ 18) (h : Lib.atoi s.data.toList = some n) (w : World) :
    Calls Tryz.prog 114 #[.string s] w fun e w' => e = .returned (.tuple #[.int .i64 n, .nilIface]) ∧ ∃ t, w' = Lib.bytesWorld w 5 t := Any.strconv_Atoi Tryz.lays172 s n hl h w

end Go.Proofs

/- The code's parser: number, param. Numbers and types by name. -/
namespace Go.Proofs.YtfcfbdemfbkgmaaGreatDoor
open Go.RowKit Go.Lib
set_option maxRecDepth 100000

theorem decFrom_digs : ∀ (l : List UInt8) (acc : Nat), (∀ c ∈ l, isDig c = true) → Lib.decFrom acc l = some (l.foldl (fun n c => 10 * n + (c.toNat - 48)) acc)
  | [], _, _ => rfl
  | c :: l, acc, h => by
    have hc := h c (List.mem_cons_self ..)
    unfold isDig at hc
    simp only [Bool.and_eq_true, decide_eq_true_eq] at hc
    unfold Lib.decFrom Lib.digitVal
    rw [if_pos hc]
    simp only
    rw [decFrom_digs l _ (fun x hx => h x (List.mem_cons_of_mem _ hx)), List.foldl_cons, Nat.mul_comm]
theorem atoi_digs {l : List UInt8} (h0 : l ≠ []) (h : ∀ c ∈ l, isDig c = true) : Lib.atoi l = some ((numV l : Nat) : Int) := by
  cases l with
  | nil => exact absurd rfl h0
  | cons c r =>
    have hc := h c (List.mem_cons_self ..)
    unfold isDig at hc
    simp only [Bool.and_eq_true, decide_eq_true_eq] at hc
    change (if (c == 45) = true then _ else if (c == 43) = true then _ else _) = _
    rw [if_neg (by intro e; rw [eq_of_beq e] at hc; exact absurd hc.1 (by decide)), if_neg (by intro e; rw [eq_of_beq e] at hc; exact absurd hc.1 (by decide))]
    unfold Lib.decNat
    rw [if_neg (by simp), decFrom_digs _ _ h]
    rfl
theorem cur_memT {L : List Tk} {s : PS} (h : s.i < L.length) : curT L s ∈ L := by
  unfold curT
  rw [List.getD_eq_getElem?_getD, List.getElem?_eq_getElem h]
  exact List.getElem_mem h

/-- Where a number must stand. -/
def numQ (L : List Tk) (s : PS) : PS := if (curT L s).kind = 2 then s.go else { s with e := 11, pos := (curT L s).pos }
theorem psr_number (w0 w : World) (b : Nat) (L : List Tk) (s : PS) (h : Psr w0 w b L s) :
    Calls Tryz.prog 90 #[.pointer (some ⟨b, 0, none⟩)] w (Ends w0 w b L (numQ L s) (Ret (.int .i64 ((numV (curT L s).text : Nat) : Int)))) := by
  have P := psr_kind w0 w b L s 2 h (by decide)
  have f1 := tok_text (curT L s)
  change Calls _ _ _ _ (Ends w0 w b L (numQ L s) _) at P
  have hx : (numQ L s).e = 0 → (curT L s).text ≠ [] ∧ (curT L s).text.length ≤ 9 ∧ ∀ c ∈ (curT L s).text, isDig c = true := fun he => by
    unfold numQ at he
    split at he
    · rename_i hk
      have := h.ok.num _ (cur_memT h.lt) hk
      exact ⟨h.x.num _ (cur_memT h.lt) hk, this.1, this.2⟩
    · exact absurd he (show ¬ (11 : Int) = 0 by decide)
  have HX := Lib.hid hx
  generalize numQ L s = s1 at *
  unfold tokV at P
  generalize curT L s = t at *
  obtain ⟨kd, tt, p⟩ := t
  simp only at P f1
  clear h hx
  go_enter Tryz.func90, Tryz.ntmps90
  go_wp2_with fail
  refine P.mono ?_
  rintro e1 w1 hr
  rcases hr.out1 with ⟨h0, hv, X⟩ | ⟨h0, rfl, X⟩
  · obtain rfl : e1 = _ := hv
    obtain ⟨x1, x2, x3⟩ := HX.out h0
    have HQ := Lib.hid (And.intro (show (tx tt).size ≤ 18 by rw [tx_size tt]; omega) (show Lib.atoi (tx tt).data.toList = some ((numV tt : Nat) : Int) by rw [← atoi_digs x1 x3]; rfl))
    clear hr P HX x1 x2 x3
    go_wp2_with fail
    refine (Tryz.strconv_Atoi (tx tt) _ HQ.out.1 HQ.out.2 w1).mono ?_
    rintro e2 w2 ⟨rfl, q, hw⟩
    have hc : Chg [] w1 w2 := by
      rw [hw]
      refine Chg.of_below ⟨?_, ?_, ?_, ?_, fun k hk => Lib.bytesWorld_at_old w1 _ _ k hk⟩
      · unfold Lib.bytesWorld World.freeze; split <;> rfl
      · unfold Lib.bytesWorld World.freeze; split <;> rfl
      · unfold Lib.bytesWorld World.freeze; split <;> rfl
      · rw [Lib.bytesWorld_size]; exact Nat.le_succ _
    have XX := Lib.hid (And.intro (X.out.1.chg hc (fun x hx => by cases hx)) (X.out.2.trans (hc.mono (fun x hx => by cases hx))))
    clear hw hc X HQ
    go_wp2_with fail
    go_ret
    exact ⟨XX.out.2, .inl ⟨h0, XX.out.1, rfl⟩⟩
  · clear hr P HX
    go_wp2_with fail
    exact ⟨rfl, X.out, .inr ⟨h0, rfl⟩⟩

end Go.Proofs.YtfcfbdemfbkgmaaGreatDoor

namespace Go.Proofs.YtfcfbdemfbkgmaaGreatDoor
open Go.RowKit Go.Lib
set_option maxRecDepth 100000

set_option maxHeartbeats 2000000 in
theorem ccomp_walk (U : EX) (w0 : World) (b : Nat) (L : List Tk) (N : Nat) (hG : ∀ s l, Goes L s (sumT L U N s l).2) (hP : PotOk L (sumT L U N)) (K : ExC 164 (sumT L U N) w0 b L N) :
    ExC 149 (exprT L U N) w0 b L N := by
  intro w s v m l hr ho hn hp
  have P := K w s v m l hr ho hn hp
  obtain ⟨R, hR⟩ : ∃ R, exprT L U N s l = R := ⟨_, rfl⟩
  rw [hR]
  unfold exprT at hR
  simp only at hR
  have hx := And.intro ((hG s l).lt hr.lt) (And.intro ((hG s l).rem) (hP s l hr.lt))
  have B := Lib.hid (fun w s v m l k h1 h2 h3 h4 h5 => binary_walk 164 (sumT L U N) w0 b L N hP K (by intro args w; rfl) w s v m l k h1 h2 h3 h4 h5)
  generalize sumT L U N = S at *
  obtain ⟨⟨l1, s1⟩, hq⟩ : ∃ q, S s l = q := ⟨_, rfl⟩
  rw [hq] at P hR hx
  have HX := Lib.hid hx
  have HR := Lib.hid hR
  have HN := Lib.hid (And.intro hn hp)
  have GP := Lib.hid (And.intro hG hP)
  obtain ⟨ao0, c0, rfl⟩ := ho.shape
  clear hr ho hn hp hR hG hP K hq hx
  go_enter Tryz.func149, Tryz.ntmps149
  go_wp2_with fail
  refine P.mono ?_
  rintro e1 w1 ⟨cc, ⟨h0, ao1, m1, c1, rfl, o1, r1, f1⟩ | ⟨h0, rfl⟩⟩
  case inr =>
    clear P B
    go_wp2_with fail
    have hR := HR.out
    have hn : whichT L s1 relOps = none := by
      unfold relOps whichT
      rw [isT_err h0, if_neg (by simp)]
      unfold whichT
      rw [isT_err h0, if_neg (by simp)]
      unfold whichT
      rw [isT_err h0, if_neg (by simp)]
      rfl
    rw [hn] at hR
    rw [← hR]
    exact ⟨rfl, cc, .inr ⟨h0, rfl⟩⟩
  have H1 := Lib.hid (And.intro r1 (And.intro o1 (And.intro cc f1)))
  have hw := fun t ht => isT_text r1.x r1.lt r1.e (t := t) ht
  have hmore := fun t => isT_more r1.ok (s := s1) (t := t)
  have P2 := psr_peek w0 w1 b L s1 r1
  clear P o1 r1 f1 cc h0
  have f1 := tok_text (curT L s1)
  unfold tokV at P2
  obtain ⟨T, hT⟩ : ∃ T, curT L s1 = T := ⟨_, rfl⟩
  have HT := Lib.hid hT
  rw [hT] at P2 hw f1
  obtain ⟨kd, tt, p⟩ := T
  simp only at P2 hw f1
  have HW := Lib.hid (And.intro hw hmore)
  clear hT hw hmore
  go_wp2_with fail
  refine P2.mono ?_
  rintro e3 w3 hr
  obtain ⟨rfl, H3⟩ := hr.out1
  have H4 := Lib.hid (And.intro H3.out.1 (And.intro (H1.out.2.1.keep H3.out.2) (And.intro (H1.out.2.2.1.more H1.out.2.2.2 H3.out.2 (fun x hx => .inl (by simpa using hx))) H1.out.2.2.2)))
  clear hr P2 H3 H1
  by_cases hk : whichT L s1 relOps = none
  · have hR := HR.out
    rw [hk] at hR
    simp only at hR
    have hne : ∀ t k, (t, k) ∈ relOps → isT L s1 t = false := fun t k ht => by
      cases hb : isT L s1 t with
      | false => rfl
      | true =>
        exfalso
        revert hk ht
        unfold relOps
        intro hk ht
        simp only [List.mem_cons, Prod.mk.injEq, List.not_mem_nil, or_false] at ht
        unfold whichT at hk
        split at hk
        · cases hk
        rename_i h1
        unfold whichT at hk
        split at hk
        · cases hk
        rename_i h2
        unfold whichT at hk
        split at hk
        · cases hk
        rename_i h3
        rcases ht with ⟨rfl, _⟩ | ⟨rfl, _⟩ | ⟨rfl, _⟩
        · exact h1 hb
        · exact h2 hb
        · exact h3 hb
    have n1 : ¬ tt = [61, 61] := fun e => by have := hne [61, 61] 10 (by decide); rw [HW.out.1 _ (by decide), e] at this; simp at this
    have n2 : ¬ tt = [60] := fun e => by have := hne [60] 11 (by decide); rw [HW.out.1 _ (by decide), e] at this; simp at this
    have n3 : ¬ tt = [60, 61] := fun e => by have := hne [60, 61] 12 (by decide); rw [HW.out.1 _ (by decide), e] at this; simp at this
    have b1 : (tt == [61, 61]) = false := by simpa using n1
    have b2 : (tt == [60]) = false := by simpa using n2
    have b3 : (tt == [60, 61]) = false := by simpa using n3
    have y1 := tx_list tt
    have HD := Lib.hid hR
    clear hk hR hne B GP HX HN
    go_wp2_with fail
    go_ret
    rw [← HD.out]
    exact ⟨H4.out.2.2.1, .inl ⟨H4.out.1.e, ao1, m1, c1, rfl, H4.out.2.1, H4.out.1, H4.out.2.2.2⟩⟩
  · obtain ⟨k, hk2⟩ : ∃ k, whichT L s1 relOps = some k := by
      cases h : whichT L s1 relOps with
      | none => exact absurd h hk
      | some k => exact ⟨k, rfl⟩
    have hR := HR.out
    rw [hk2] at hR
    simp only at hR
    obtain ⟨t, ht⟩ := which_is hk2
    have hmore := HW.out.2 t ht H4.out.1.lt
    have htt : (tt = [61, 61] ∧ k = 10) ∨ (tt = [60] ∧ k = 11) ∨ (tt = [60, 61] ∧ k = 12) := by
      have hw := HW.out.1
      unfold relOps whichT at hk2
      split at hk2
      · rename_i h1
        rw [hw _ (by decide)] at h1
        cases hk2
        exact .inl ⟨of_decide_eq_true h1, rfl⟩
      unfold whichT at hk2
      split at hk2
      · rename_i h1
        rw [hw _ (by decide)] at h1
        cases hk2
        exact .inr (.inl ⟨of_decide_eq_true h1, rfl⟩)
      unfold whichT at hk2
      split at hk2
      · rename_i h1
        rw [hw _ (by decide)] at h1
        cases hk2
        exact .inr (.inr ⟨of_decide_eq_true h1, rfl⟩)
      · cases hk2
    have hrm := rem_go (L := L) H4.out.1.e H4.out.1.lt
    have hS : remT L s1.go < N ∧ l1.length + remT L s1.go + 1 ≤ 20000 := by
      have := HX.out.2.1
      have := HX.out.2.2
      have := HN.out.1
      have := HN.out.2
      first | omega | (simp only at *; omega)
    have HS := Lib.hid (And.intro hmore hS)
    have HD := Lib.hid hR
    clear hk hk2 hR hmore hrm hS ht HX HN GP HR HW HT
    rcases htt with ⟨rfl, rfl⟩ | ⟨rfl, rfl⟩ | ⟨rfl, rfl⟩
    all_goals
      have y1 := tx_list [61, 61]
      have y2 := tx_list [60]
      have y3 := tx_list [60, 61]
      go_wp2_with fail
      refine (B.out w3 s1 _ m1 l1 _ H4.out.1 H4.out.2.1 HS.out.1 HS.out.2.1 HS.out.2.2).mono ?_
      rintro e5 w5 ⟨cc5, ⟨h5, ao5, m5, c5, rfl, o5, r5, f5⟩ | ⟨h5, rfl⟩⟩
      · have HF := Lib.hid (And.intro o5 (And.intro r5 (And.intro (H4.out.2.2.1.more H4.out.2.2.2 cc5 (fun x hx => List.mem_cons.1 hx)) (H4.out.2.2.2.trans f5 H4.out.2.2.1.size))))
        clear o5 r5 cc5 f5
        go_wp2_with fail
        go_ret
        rw [← HD.out]
        exact ⟨HF.out.2.2.1, .inl ⟨h5, ao5, m5, c5, rfl, HF.out.1, HF.out.2.1, HF.out.2.2.2⟩⟩
      · have HF := Lib.hid (H4.out.2.2.1.more H4.out.2.2.2 cc5 (fun x hx => List.mem_cons.1 hx))
        clear cc5
        go_wp2_with fail
        rw [← HD.out]
        exact ⟨rfl, HF.out, .inr ⟨h5, rfl⟩⟩

/-- Within such a piece, without a block of its own. -/
structure EdAt (w0 w wr : World) (b : Nat) (L : List Tk) (v v1 : Value) (m : Nat) (s : PS) (l : List Nd) : Prop where
  r : Psr w0 wr b L s
  o : OwnN wr (b + 1) v1 m l
  c : Chg (b :: rowF v) w wr
  f : FromRow w v v1
theorem EdAt.keep {w0 w wr w1 : World} {b : Nat} {L : List Tk} {v v1 : Value} {m : Nat} {s s1 : PS} {l : List Nd} (h : EdAt w0 w wr b L v v1 m s l) (hr : Psr w0 w1 b L s1) (hc : Chg [b] wr w1) : EdAt w0 w w1 b L v v1 m s1 l :=
  ⟨hr, h.o.keep hc, h.c.more h.f hc (fun x hx => .inl (by simpa using hx)), h.f⟩
theorem EcAt.drew {w0 w wr : World} {b : Nat} {L : List Tk} {v v1 : Value} {m T : Nat} {ob : Obj} {s : PS} {l : List Nd} (h : EcAt w0 w wr b L v v1 m T ob s l) : EcAt w0 w wr.drew b L v v1 m T ob s l :=
  ⟨h.r.chg ((Chg.refl [] wr).drew) (fun x hx => by cases hx), h.o.chg ((Chg.refl [] wr).drew) (fun k _ hk => by cases hk), h.c.drew, h.f, h.z, h.nb, h.nr, h.new⟩
theorem EcAt.ed {w0 w wr : World} {b : Nat} {L : List Tk} {v v1 : Value} {m T : Nat} {ob : Obj} {s : PS} {l : List Nd} (h : EcAt w0 w wr b L v v1 m T ob s l) : EdAt w0 w wr b L v v1 m s l := ⟨h.r, h.o, h.c, h.f⟩
/-- A new block of its own. -/
theorem EcAt.mk' {w0 w : World} {b : Nat} {L : List Tk} {v : Value} {m : Nat} {s : PS} {l : List Nd} (hr : Psr w0 w b L s) (ho : OwnN w (b + 1) v m l) (ob : Obj) : EcAt w0 w (w.alloc ob) b L v v m w.heap.size ob s l :=
  ⟨hr.chg ((Chg.refl [] w).alloc _) (fun x hx => by cases hx), ho.chg ((Chg.refl [] w).alloc _) (fun k _ hk => by cases hk), (Chg.refl _ w).alloc _, FromRow.refl _ _, heap_alloc_new _ _, hr.blt, fun hx => by
      have := (ho.2.lt _ (rowF_mem.1 hx)).2
      omega, Nat.le_refl _⟩
theorem EcAt.after1 {w0 w w1 w2 : World} {b : Nat} {L : List Tk} {v : Value} {m : Nat} {s : PS} {l : List Nd} (hr : Psr w0 w1 b L s) (ho : OwnN w (b + 1) v m l) (hc : Chg [b] w w1) (ob : Obj) (e : w2 = w1.alloc ob) : EcAt w0 w w2 b L v v m w1.heap.size ob s l := by
  subst e
  have ho1 := ho.keep hc
  exact ⟨hr.chg ((Chg.refl [] w1).alloc _) (fun x hx => by cases hx), ho1.chg ((Chg.refl [] w1).alloc _) (fun k _ hk => by cases hk), (hc.mono (fun x hx => by rw [List.mem_singleton] at hx; rw [hx]; exact List.mem_cons_self ..)).alloc _, FromRow.refl _ _, heap_alloc_new _ _, hr.blt, fun hx => by
      have := (ho1.2.lt _ (rowF_mem.1 hx)).2
      omega, hc.size⟩
theorem pnk_shut (s : PS) : Pnk s.shut = Pnk s := rfl
theorem open_words {t : List UInt8} (h : t = [45] ∨ t = [33] ∨ t = [40]) : t ∈ wordsL := by rcases h with rfl | rfl | rfl <;> decide

set_option maxHeartbeats 2000000 in
theorem prefix_walk (w0 : World) (b : Nat) (L : List Tk) (N : Nat) (K : ExC 188 (unaryT L N) w0 b L N)
    (w : World) (s : PS) (v : Value) (m : Nat) (l : List Nd) (k : Int) (hr : Psr w0 w b L s) (ho : OwnN w (b + 1) v m l) (ht : (curT L s).text = [45] ∨ (curT L s).text = [33]) (hn : remT L s < N + 1) (hp : l.length + remT L s ≤ 20000) :
    Calls Tryz.prog 191 #[.pointer (some ⟨b, 0, none⟩), v, .int .i64 k, tokV (curT L s)] w (ExEnd w0 w b L v ((unaryT L N (openT L s (curT L s).text) l).1 ++ [ndK k (((unaryT L N (openT L s (curT L s).text) l).1.length : Int) - 1) (-1) (curT L s).pos], (unaryT L N (openT L s (curT L s).text) l).2.shut)) := by
  have hL := hr.ok
  have hrem := rem_open (L := L) (t := (curT L s).text) hr.e hr.lt
  have hdp := open_deep hL s (curT L s).text
  have hG := fun s l => unary_goes hL N s l
  have hP := unary_pot hL N (openT L s (curT L s).text) l (open_lt hL hr.lt)
  obtain ⟨ao0, c0, rfl⟩ := ho.shape
  have hbl := hr.blt
  have HA := Lib.hid (EcAt.mk' hr ho (tokO (curT L s)))
  have hw : (curT L s).text ∈ wordsL := by rcases ht with h | h <;> rw [h] <;> decide
  have O := Lib.hid (fun w1 h1 => psr_open w0 w1 b L s (curT L s).text h1 hw)
  obtain ⟨⟨l2, s2⟩, hq⟩ : ∃ q, unaryT L N (openT L s (curT L s).text) l = q := ⟨_, rfl⟩
  have K1 := Lib.hid (fun w v => K w (openT L s (curT L s).text) v m l)
  have HG := hG (openT L s (curT L s).text) l
  rw [hq] at K1 hP HG ⊢
  generalize openT L s (curT L s).text = so at *
  have HN := Lib.hid (And.intro hn (And.intro hp (And.intro hrem (And.intro hdp (And.intro hP HG)))))
  have hm2 : m ≤ 20000 := by have := ho.1; omega
  have HD : Hid (s.deep + 1 = so.deep) := Lib.hid hdp.symm
  have hs9 := hr.deep
  unfold tokV
  generalize curT L s = t at *
  obtain ⟨kd, tt, p⟩ := t
  simp only at ht O hw
  unfold tokO at HA
  simp only at HA ⊢
  clear hr ho K hn hp hrem hdp hG hP HG hq hL ht hw
  go_enter Tryz.func191, Tryz.ntmps191
  have ct : (w.alloc (.cells #[.int .i64 kd, .string (tx tt), .int .i64 (p : Int)] 52)).cell? ⟨w.heap.size, 1, none⟩ = some (.string (tx tt)) := cellsN HA.out.z 1 _ rfl
  go_wp2_with fail
  refine (O.out _ HA.out.r).mono ?_
  rintro e1 w1 hr
  rcases hr.out1 with ⟨h0, hv, X⟩ | ⟨h0, rfl, X⟩
  case inr =>
    clear hr
    go_wp2_with fail
    have g := HN.out.2.2.2.2.2.err h0
    subst g
    exact ⟨rfl, HA.out.c.more HA.out.f X.out (fun x hx => .inl (by simpa using hx)), .inr ⟨h0, rfl⟩⟩
  obtain rfl : e1 = _ := hv
  have H1 := Lib.hid (HA.out.keep X.out.1 X.out.2)
  clear hr X O
  go_wp2_with fail
  refine (K1.out _ _ H1.out.r H1.out.o (by have := HN.out.1; have := HN.out.2.2.1; omega) (by have := HN.out.2.1; have := HN.out.2.2.1; omega)).mono ?_
  rintro e2 w2 ⟨cc, ⟨h2, ao2, m2, c2, rfl, o2, r2, f2⟩ | ⟨h2, rfl⟩⟩
  case inr =>
    have HF := Lib.hid (H1.out.c.more H1.out.f cc (fun x hx => List.mem_cons.1 hx))
    clear cc
    go_wp2_with fail
    exact ⟨rfl, HF.out, .inr ⟨h2, rfl⟩⟩
  have H2 := Lib.hid (H1.out.after o2 r2 cc f2)
  have hm2' : m2 ≤ 20000 := by have := o2.1; have := HN.out.2.2.2.2.1; have := HN.out.2.1; have := HN.out.2.2.1; simp only at *; omega
  clear cc o2 r2 f2 K1 H1
  have hsd : 1 ≤ s2.deep := by
    have := HN.out.2.2.2.2.2.deep
    have := HN.out.2.2.2.1
    simp only at *
    omega
  go_wp2_with fail
  refine (psr_shut w0 w2 b L s2 H2.out.r hsd).mono ?_
  rintro e3 w3 hr
  obtain ⟨rfl, X3⟩ := hr.out1
  have H3 := Lib.hid (H2.out.keep X3.out.1 X3.out.2)
  clear hr X3 H2 hsd
  have cp : w3.cell? ⟨w.heap.size, 2, none⟩ = some (.int .i64 (p : Int)) := cellsN H3.out.z 2 _ rfl
  have FL : Hid (m2 + 1 ≤ 1000000) := Lib.hid (by omega)
  have hb3 := Lib.hid H3.out.r.blt
  go_wp2_with (at_builtin; refine wpList_append_gen elemNode rfl (.tmp 18) (.tmp 26) rfl (b + 1) _ m2 _ rfl (H3.out.o.2.alloc _) _ 1 (nv ⟨k, 0, [], [], (m2 : Int) - 1, -1, p⟩) rfl (node_litZ _ ⟨k, 0, [], [], (m2 : Int) - 1, -1, p⟩ _ rfl) (nv_one _) (m2 + 1) rfl FL (by decide) (by have := hb3.out; simp; omega) ?_; intro ao7 c7 w7 hown7 hb7 hg7 ho7; have HA := Lib.hid (And.intro hown7 (And.intro hg7 ho7)); clear hown7 hb7 hg7 ho7)
  go_ret
  have := H3.out.node ⟨k, 0, [], [], (m2 : Int) - 1, -1, p⟩ HA.out.1 HA.out.2.1 HA.out.2.2
  rw [show (m2 : Int) = (l2.length : Int) by rw [H3.out.o.1]] at this
  exact this

end Go.Proofs.YtfcfbdemfbkgmaaGreatDoor
