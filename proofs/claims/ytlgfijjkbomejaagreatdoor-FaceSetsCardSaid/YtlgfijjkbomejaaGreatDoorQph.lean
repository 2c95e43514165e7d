/- The code's unary, over itself and comparison; expr. Numbers and types by name. -/
import Derived.Test.YtlgfijjkbomejaaGreatDoorPaz
import Derived.Test.YtlgfijjkbomejaaGreatDoorPbb
import Derived.WalkMore
import Derived.Shelf.Strconv.Atoi
import Derived.Test.YtlgfijjkbomejaaGreatDoorProg
import Derived.Test.YtlgfijjkbomejaaGreatDoorPay
import Derived.Test.YtlgfijjkbomejaaGreatDoorQpa
import Derived.Deep.Cut
import Derived.Deep.CutBlock
import Derived.Deep.CutRange
/- The code's pieces that append nodes: what is asked of them; binary. Numbers and types by name. -/
namespace Go.Proofs.YtlgfijjkbomejaaGreatDoor
open Go.RowKit Go.Lib
set_option maxRecDepth 100000

/-- A function that is entered when it is called. -/
def Enters (f : FuncId) : Prop := ∀ (args : Array Value) (w : World), (callFunc f args).run Tryz.prog w = .ok (.enter f args) w

/-- A node's own block. -/
def nodeO (o : Nd) : Obj := .cells #[.int .i64 o.kind, .int .i64 o.num, .string (tx o.mod), .string (tx o.name), .int .i64 o.a, .int .i64 o.b, .int .i64 (o.pos : Int)] 244
def tokO (t : Tk) : Obj := .cells #[.int .i64 t.kind, .string (tx t.text), .int .i64 (t.pos : Int)] 117

/-- Within such a piece: the state, the list, a block of its own. -/
structure EcAt (w0 w wr : World) (b : Nat) (L : List Tk) (v v1 : Value) (m T : Nat) (ob : Obj) (s : PS) (l : List Nd) : Prop where
  r : Psr w0 wr b L s
  o : OwnN wr (b + 1) v1 m l
  c : Chg (b :: rowF v) w wr
  f : FromRow w v v1
  z : wr.heap[T]? = some ob
  nb : b < T
  nr : T ∉ rowF v1
  new : w.heap.size ≤ T
theorem EcAt.keep {w0 w wr w1 : World} {b : Nat} {L : List Tk} {v v1 : Value} {m T : Nat} {ob : Obj} {s s1 : PS} {l : List Nd} (h : EcAt w0 w wr b L v v1 m T ob s l) (hr : Psr w0 w1 b L s1) (hc : Chg [b] wr w1) : EcAt w0 w w1 b L v v1 m T ob s1 l :=
  ⟨hr, h.o.keep hc, h.c.more h.f hc (fun x hx => .inl (by simpa using hx)), h.f, (hc.block T (Array.getElem?_eq_some_iff.1 h.z).1 (by have := h.nb; rw [List.mem_singleton]; omega)).trans h.z, h.nb, h.nr, h.new⟩
theorem EcAt.after {w0 w wr w1 : World} {b : Nat} {L : List Tk} {v v1 v2 : Value} {m m2 T : Nat} {ob : Obj} {s s1 : PS} {l l2 : List Nd} (h : EcAt w0 w wr b L v v1 m T ob s l) (o2 : OwnN w1 (b + 1) v2 m2 l2) (r2 : Psr w0 w1 b L s1) (c2 : Chg (b :: rowF v1) wr w1) (f2 : FromRow wr v1 v2) : EcAt w0 w w1 b L v v2 m2 T ob s1 l2 :=
  ⟨r2, o2, h.c.more h.f c2 (fun x hx => List.mem_cons.1 hx), h.f.trans f2 h.c.size, (c2.block T (Array.getElem?_eq_some_iff.1 h.z).1 (by have := h.nb; simp only [List.mem_cons, not_or]; exact ⟨by omega, h.nr⟩)).trans h.z, h.nb, fun hx => by
    rcases f2.mem hx (F := rowF v1) (fun y hy => hy) with hh | hh
    · exact h.nr hh
    · have := (Array.getElem?_eq_some_iff.1 h.z).1
      omega, h.new⟩
/-- A cell of its own block is written. -/
theorem EcAt.field {w0 w wr : World} {b : Nat} {L : List Tk} {v v1 : Value} {m T : Nat} {cs : Array Value} {t : TypeId} {s : PS} {l : List Nd} (h : EcAt w0 w wr b L v v1 m T (.cells cs t) s l) (j : Nat) (x : Value) : EcAt w0 w (wr.setCell ⟨T, j, none⟩ x) b L v v1 m T (.cells (cs.setIfInBounds j x) t) s l := by
  have hc : Chg [T] wr (wr.setCell ⟨T, j, none⟩ x) := (Chg.refl [T] wr).set (.inl (List.mem_singleton.2 rfl)) j x
  exact ⟨h.r.chg hc (fun y hy => by rw [List.mem_singleton] at hy; rw [hy]; exact h.nb), h.o.chg hc (fun k hk hm => by rw [List.mem_singleton] at hm; subst hm; exact h.nr (rowF_mem.2 hk)), h.c.trans' hc (fun y hy => .inr (by rw [List.mem_singleton] at hy; rw [hy]; exact h.new)), h.f, heap_setCell_same wr T j cs t x h.z, h.nb, h.nr, h.new⟩
theorem node_info (o : Nd) : (Tryz.prog.info? 244).map (·.size) = some (#[Value.int .i64 o.kind, .int .i64 o.num, .string (tx o.mod), .string (tx o.name), .int .i64 o.a, .int .i64 o.b, .int .i64 (o.pos : Int)]).size := by
  show _ = some 7
  kernel_rfl

end Go.Proofs.YtlgfijjkbomejaaGreatDoor

/- The code's sum and term, over what they are asked of. Numbers and types by name. -/
namespace Go.Proofs.YtlgfijjkbomejaaGreatDoor
open Go.RowKit Go.Lib
set_option maxRecDepth 100000

theorem opLoop_err {L : List Tk} {ops : List (List UInt8 × Int)} {U : EX} {n : Nat} {s : PS} {l : List Nd} (h : s.e ≠ 0) : opLoop L ops U n s l = (l, s) := by
  cases n with
  | zero => rfl
  | succ n =>
    unfold opLoop
    rw [if_pos h]
/-- What is left, by a parser's cells. -/
def lenW (b : Nat) (w : World) : Nat :=
  match w.cell? ⟨b, 0, none⟩ with
  | some (.slice _ n _) => n
  | _ => 0
theorem Psr.len {w0 w : World} {b : Nat} {L : List Tk} {s : PS} (h : Psr w0 w b L s) : lenW b w = L.length - s.i := by
  obtain ⟨a, n, c, h1, h2, _⟩ := h.r
  unfold lenW
  rw [h1.c0]
  show n = _
  omega

/-- In the midst of a row of operands. -/
structure OcAt (w0 w wr : World) (b : Nat) (L : List Tk) (v v1 : Value) (m : Nat) (s : PS) (l : List Nd) (R : List Nd × PS) (ops : List (List UInt8 × Int)) (U : EX) (q N : Nat) : Prop where
  r : Psr w0 wr b L s
  o : OwnN wr (b + 1) v1 m l
  c : Chg (b :: rowF v) w wr
  f : FromRow w v v1
  g : opLoop L ops U q s l = R
  rq : remT L s < q
  rn : remT L s < N
  pot : l.length + remT L s ≤ 20000
variable {w0 w wr : World} {b : Nat} {L : List Tk} {v v1 : Value} {m : Nat} {s : PS} {l : List Nd} {R : List Nd × PS} {ops : List (List UInt8 × Int)} {U : EX} {q N : Nat}
theorem OcAt.keep {w1 : World} (h : OcAt w0 w wr b L v v1 m s l R ops U q N) (hr : Psr w0 w1 b L s) (hc : Chg [b] wr w1) : OcAt w0 w w1 b L v v1 m s l R ops U q N :=
  ⟨hr, h.o.keep hc, h.c.more h.f hc (fun x hx => .inl (by simpa using hx)), h.f, h.g, h.rq, h.rn, h.pot⟩
theorem OcAt.sign {k : Int} (h : OcAt w0 w wr b L v v1 m s l R ops U q N) (hk : whichT L s ops = some k) :
    remT L s.go < N ∧ l.length + remT L s.go + 1 ≤ 20000 ∧ ∃ q', q = q' + 1 ∧ opLoop L ops U q' (U s.go l).2 (twoT (U s.go l).1 ((l.length : Int) - 1) k (curT L s).pos) = R ∧ remT L s.go < q' := by
  have h1 := rem_go (L := L) h.r.e h.r.lt
  have h2 := h.rn
  have h3 := h.pot
  have h4 := h.rq
  refine ⟨by omega, by omega, ?_⟩
  cases q with
  | zero => omega
  | succ q' =>
    refine ⟨q', rfl, ?_, by omega⟩
    have := h.g
    unfold opLoop at this
    rw [if_neg (by rw [h.r.e]; simp), hk] at this
    exact this
theorem OcAt.next {w4 : World} {v4 : Value} {m4 : Nat} {k : Int} (h : OcAt w0 w wr b L v v1 m s l R ops U q N) (hG : ∀ s l, Goes L s (U s l).2) (hP : PotOk L U) (hk : whichT L s ops = some k)
    (o4 : OwnN w4 (b + 1) v4 m4 (twoT (U s.go l).1 ((l.length : Int) - 1) k (curT L s).pos)) (r4 : Psr w0 w4 b L (U s.go l).2) (c4 : Chg (b :: rowF v1) wr w4) (f4 : FromRow wr v1 v4) :
    ∃ q', OcAt w0 w w4 b L v v4 m4 (U s.go l).2 (twoT (U s.go l).1 ((l.length : Int) - 1) k (curT L s).pos) R ops U q' N ∧ lenW b w4 < lenW b wr := by
  obtain ⟨g1, g2, q', rfl, g3, g4⟩ := h.sign hk
  obtain ⟨t, ht⟩ := which_is hk
  have hm := isT_more h.r.ok ht h.r.lt
  have hp := hP s.go l hm
  have hrm := (hG s.go l).rem
  have hi := (hG s.go l).i
  have hlt := r4.lt
  have hi2 : s.go.i = s.i + 1 := rfl
  refine ⟨q', ⟨r4, o4, h.c.more h.f c4 (fun x hx => List.mem_cons.1 hx), h.f.trans f4 h.c.size, g3, by omega, by omega, by rw [two_len]; omega⟩, ?_⟩
  rw [r4.len, h.r.len]
  omega
end Go.Proofs.YtlgfijjkbomejaaGreatDoor

/-
  DERIVED: THE SHELF's CONTRACTS AT THIS DUMP, IN PLAIN WORDS (tools/lay-plain.mjs out of 'YtlgfijjkbomejaaGreatDoorLat.lean', which tools/lay-shelf.mjs wrote): THE SAME DECLARATIONS UNDER THE SAME NAMES: 'import', 'namespace', 'open', 'def', 'theorem' AND NOTHING ELSE: no command of the shelf's: FOR A HAND-IN. Each laying: the table of numbers ('.._ren') and one theorem, a field a fact of the dump's own or the kernel's comparison; each contract: ONE APPLICATION.
-/
namespace Go.Proofs
open Go.Shelf
def Tryz.lays244_ren : Go.Shelf.Ren := ⟨fun | 244 => 148 | 247 => 168 | 287 => 182 | 321 => 189 | 322 => 190 | n => n, fun | 9 => 9 | 3 => 3 | 75 => 184 | 4 => 4 | 5 => 5 | 167 => 223 | 37 => 45 | 0 => 0 | 85 => 224 | 2 => 2 | 53 => 152 | 175 => 237 | 46 => 131 | 21 => 21 | 80 => 105 | n => n, fun | n => n⟩
theorem Tryz.lays244 : Go.Proofs.Lays.n244 Tryz.prog Tryz.lays244_ren := {
  mixed := by kernel_rfl
  f244 := Tryz.func148.trans (congrArg some (by kernel_rfl))
  f247 := Tryz.func168.trans (congrArg some (by kernel_rfl))
  f287 := Tryz.func182.trans (congrArg some (by kernel_rfl))
  f321 := Tryz.func189.trans (congrArg some (by kernel_rfl))
  f322 := Tryz.func190.trans (congrArg some (by kernel_rfl))
  t0 := Tryz.underlying0
  a0 := Tryz.isAgg0
  z0 := Tryz.sizeOf0
  v0 := Tryz.zeroValue0
  t2 := Tryz.underlying2
  a2 := Tryz.isAgg2
  z2 := Tryz.sizeOf2
  v2 := Tryz.zeroValue2
  t3 := Tryz.underlying3
  a3 := Tryz.isAgg3
  z3 := Tryz.sizeOf3
  v3 := Tryz.zeroValue3
  t4 := Tryz.underlying4
  a4 := Tryz.isAgg4
  z4 := Tryz.sizeOf4
  v4 := Tryz.zeroValue4
  t5 := Tryz.underlying5
  a5 := Tryz.isAgg5
  z5 := Tryz.sizeOf5
  v5 := Tryz.zeroValue5
  t9 := Tryz.underlying9
  a9 := Tryz.isAgg9
  z9 := Tryz.sizeOf9
  v9 := Tryz.zeroValue9
  t21 := Tryz.underlying21
  a21 := Tryz.isAgg21
  z21 := Tryz.sizeOf21
  v21 := Tryz.zeroValue21
  t37 := Tryz.underlying45
  a37 := Tryz.isAgg45
  z37 := Tryz.sizeOf45
  v37 := Tryz.zeroValue45
  t46 := Tryz.underlying131
  a46 := Tryz.isAgg131
  z46 := Tryz.sizeOf131
  v46 := Tryz.zeroValue131
  t53 := Tryz.underlying152
  a53 := Tryz.isAgg152
  z53 := Tryz.sizeOf152
  v53 := Tryz.zeroValue152
  t75 := Tryz.underlying184
  a75 := Tryz.isAgg184
  z75 := Tryz.sizeOf184
  v75 := Tryz.zeroValue184
  t85 := Tryz.underlying224
  a85 := Tryz.isAgg224
  z85 := Tryz.sizeOf224
  v85 := Tryz.zeroValue224
  t167 := Tryz.underlying223
  a167 := Tryz.isAgg223
  z167 := Tryz.sizeOf223
  v167 := Tryz.zeroValue223
  t175 := Tryz.underlying237
  a175 := Tryz.isAgg237
  z175 := Tryz.sizeOf237
  v175 := Tryz.zeroValue237 }
open Go.RowKit in
/-- internal/strconv.Atoi, at a decimal numeral of at most 18 bytes: ITS VALUE, AND NO ERROR. The world behind the call: the one new row that '[]byte(s)' lays. (LAID: no walk: one application.) -/
theorem Tryz.internal_strconv_Atoi (s : ByteArray) (n : Int) (hl : s.size ≤ 18) (h : Lib.atoi s.data.toList = some n) (w : World) :
    Calls Tryz.prog 148 #[.string s] w fun e w' => e = .returned (.tuple #[.int .i64 n, .nilIface]) ∧ ∃ t, w' = Lib.bytesWorld w 5 t := Any.internal_strconv_Atoi Tryz.lays244 s n hl h w
def Tryz.lays172_ren : Go.Shelf.Ren := ⟨fun | 172 => 128 | 244 => 148 | 245 => 149 | 247 => 168 | 279 => 169 | 280 => 170 | 281 => 171 | 282 => 172 | 287 => 182 | 316 => 183 | 171 => 48 | 205 => 184 | 321 => 189 | 322 => 190 | 243 => 96 | 246 => 131 | 283 => 150 | 284 => 151 | 285 => 152 | 286 => 153 | 129 => 118 | 317 => 173 | 318 => 174 | 319 => 175 | 320 => 176 | 337 => 185 | 338 => 186 | n => n, fun | 9 => 9 | 3 => 3 | 75 => 184 | 76 => 185 | 4 => 4 | 5 => 5 | 167 => 223 | 37 => 45 | 0 => 0 | 85 => 224 | 2 => 2 | 168 => 226 | 53 => 152 | 175 => 237 | 46 => 131 | 210 => 240 | 127 => 246 | 145 => 249 | 143 => 247 | 21 => 21 | 171 => 205 | 173 => 207 | 212 => 231 | 51 => 173 | 20 => 20 | 213 => 232 | 232 => 250 | 233 => 251 | 80 => 105 | n => n, fun | 15 => 1 | 16 => 2 | 17 => 0 | 18 => 3 | 19 => 4 | n => n⟩
theorem Tryz.lays172 : Go.Proofs.Lays.n172 Tryz.prog Tryz.lays172_ren := {
  mixed := by kernel_rfl
  f129 := Tryz.func118.trans (congrArg some (by kernel_rfl))
  f171 := Tryz.func48.trans (congrArg some (by kernel_rfl))
  f172 := Tryz.func128.trans (congrArg some (by kernel_rfl))
  f205 := Tryz.func184.trans (congrArg some (by kernel_rfl))
  f243 := Tryz.func96.trans (congrArg some (by kernel_rfl))
  f244 := Tryz.func148.trans (congrArg some (by kernel_rfl))
  f245 := Tryz.func149.trans (congrArg some (by kernel_rfl))
  f246 := Tryz.func131.trans (congrArg some (by kernel_rfl))
  f247 := Tryz.func168.trans (congrArg some (by kernel_rfl))
  f279 := Tryz.func169.trans (congrArg some (by kernel_rfl))
  f280 := Tryz.func170.trans (congrArg some (by kernel_rfl))
  f281 := Tryz.func171.trans (congrArg some (by kernel_rfl))
  f282 := Tryz.func172.trans (congrArg some (by kernel_rfl))
  f283 := Tryz.func150.trans (congrArg some (by kernel_rfl))
  f284 := Tryz.func151.trans (congrArg some (by kernel_rfl))
  f285 := Tryz.func152.trans (congrArg some (by kernel_rfl))
  f286 := Tryz.func153.trans (congrArg some (by kernel_rfl))
  f287 := Tryz.func182.trans (congrArg some (by kernel_rfl))
  f316 := Tryz.func183.trans (congrArg some (by kernel_rfl))
  f317 := Tryz.func173.trans (congrArg some (by kernel_rfl))
  f318 := Tryz.func174.trans (congrArg some (by kernel_rfl))
  f319 := Tryz.func175.trans (congrArg some (by kernel_rfl))
  f320 := Tryz.func176.trans (congrArg some (by kernel_rfl))
  f321 := Tryz.func189.trans (congrArg some (by kernel_rfl))
  f322 := Tryz.func190.trans (congrArg some (by kernel_rfl))
  f337 := Tryz.func185.trans (congrArg some (by kernel_rfl))
  f338 := Tryz.func186.trans (congrArg some (by kernel_rfl))
  t0 := Tryz.underlying0
  a0 := Tryz.isAgg0
  z0 := Tryz.sizeOf0
  v0 := Tryz.zeroValue0
  t2 := Tryz.underlying2
  a2 := Tryz.isAgg2
  z2 := Tryz.sizeOf2
  v2 := Tryz.zeroValue2
  t3 := Tryz.underlying3
  a3 := Tryz.isAgg3
  z3 := Tryz.sizeOf3
  v3 := Tryz.zeroValue3
  t4 := Tryz.underlying4
  a4 := Tryz.isAgg4
  z4 := Tryz.sizeOf4
  v4 := Tryz.zeroValue4
  t5 := Tryz.underlying5
  a5 := Tryz.isAgg5
  z5 := Tryz.sizeOf5
  v5 := Tryz.zeroValue5
  t9 := Tryz.underlying9
  a9 := Tryz.isAgg9
  z9 := Tryz.sizeOf9
  v9 := Tryz.zeroValue9
  t20 := Tryz.underlying20
  a20 := Tryz.isAgg20
  z20 := Tryz.sizeOf20
  v20 := Tryz.zeroValue20
  t21 := Tryz.underlying21
  a21 := Tryz.isAgg21
  z21 := Tryz.sizeOf21
  v21 := Tryz.zeroValue21
  t37 := Tryz.underlying45
  a37 := Tryz.isAgg45
  z37 := Tryz.sizeOf45
  v37 := Tryz.zeroValue45
  t46 := Tryz.underlying131
  a46 := Tryz.isAgg131
  z46 := Tryz.sizeOf131
  v46 := Tryz.zeroValue131
  t51 := Tryz.underlying173
  a51 := Tryz.isAgg173
  z51 := Tryz.sizeOf173
  v51 := Tryz.zeroValue173
  t53 := Tryz.underlying152
  a53 := Tryz.isAgg152
  z53 := Tryz.sizeOf152
  v53 := Tryz.zeroValue152
  t75 := Tryz.underlying184
  a75 := Tryz.isAgg184
  z75 := Tryz.sizeOf184
  v75 := Tryz.zeroValue184
  t76 := Tryz.underlying185
  a76 := Tryz.isAgg185
  z76 := Tryz.sizeOf185
  v76 := Tryz.zeroValue185
  t85 := Tryz.underlying224
  a85 := Tryz.isAgg224
  z85 := Tryz.sizeOf224
  v85 := Tryz.zeroValue224
  t127 := Tryz.underlying246
  a127 := Tryz.isAgg246
  z127 := Tryz.sizeOf246
  v127 := Tryz.zeroValue246
  t143 := Tryz.underlying247
  a143 := Tryz.isAgg247
  z143 := Tryz.sizeOf247
  v143 := Tryz.zeroValue247
  t145 := Tryz.underlying249
  a145 := Tryz.isAgg249
  z145 := Tryz.sizeOf249
  v145 := Tryz.zeroValue249
  t167 := Tryz.underlying223
  a167 := Tryz.isAgg223
  z167 := Tryz.sizeOf223
  v167 := Tryz.zeroValue223
  t168 := Tryz.underlying226
  a168 := Tryz.isAgg226
  z168 := Tryz.sizeOf226
  v168 := Tryz.zeroValue226
  t171 := Tryz.underlying205
  a171 := Tryz.isAgg205
  z171 := Tryz.sizeOf205
  v171 := Tryz.zeroValue205
  t173 := Tryz.underlying207
  a173 := Tryz.isAgg207
  z173 := Tryz.sizeOf207
  v173 := Tryz.zeroValue207
  t175 := Tryz.underlying237
  a175 := Tryz.isAgg237
  z175 := Tryz.sizeOf237
  v175 := Tryz.zeroValue237
  t210 := Tryz.underlying240
  a210 := Tryz.isAgg240
  z210 := Tryz.sizeOf240
  v210 := Tryz.zeroValue240
  t212 := Tryz.underlying231
  a212 := Tryz.isAgg231
  z212 := Tryz.sizeOf231
  v212 := Tryz.zeroValue231
  t213 := Tryz.underlying232
  a213 := Tryz.isAgg232
  z213 := Tryz.sizeOf232
  t232 := Tryz.underlying250
  a232 := Tryz.isAgg250
  z232 := Tryz.sizeOf250
  v232 := Tryz.zeroValue250
  t233 := Tryz.underlying251
  a233 := Tryz.isAgg251
  z233 := Tryz.sizeOf251
  v233 := Tryz.zeroValue251
  g15 := by kernel_rfl
  g16 := by kernel_rfl
  g17 := by kernel_rfl
  g18 := by kernel_rfl
  g19 := by kernel_rfl }
open Go.RowKit in
/-- strconv.Atoi: "Atoi is equivalent to ParseInt(s, 10, 0), converted to type int.": AT A DECIMAL NUMERAL OF AT MOST 18 BYTES: its value, and a nil error. The world behind the call: the one new row that the library's '[]byte(s)' lays. (LAID: no walk: one application.) -/
theorem Tryz.strconv_Atoi (s : ByteArray) (n : Int) (hl : s.size ≤ 18) (h : Lib.atoi s.data.toList = some n) (w : World) :
    Calls Tryz.prog 128 #[.string s] w fun e w' => e = .returned (.tuple #[.int .i64 n, .nilIface]) ∧ ∃ t, w' = Lib.bytesWorld w 5 t := Any.strconv_Atoi Tryz.lays172 s n hl h w

end Go.Proofs

/- The code's parser: number, param. Numbers and types by name. -/
namespace Go.Proofs.YtlgfijjkbomejaaGreatDoor
open Go.RowKit Go.Lib
set_option maxRecDepth 100000

theorem decFrom_digs : ∀ (l : List UInt8) (acc : Nat), (∀ c ∈ l, isDig c = true) → Lib.decFrom acc l = some (l.foldl (fun n c => 10 * n + (c.toNat - 48)) acc)
  | [], _, _ => rfl
  | c :: l, acc, h => by
    have hc := h c (List.mem_cons_self ..)
    unfold isDig at hc
    simp only [Bool.and_eq_true, decide_eq_true_eq] at hc
    unfold Lib.decFrom Lib.digitVal
    rw [if_pos hc]
    simp only
    rw [decFrom_digs l _ (fun x hx => h x (List.mem_cons_of_mem _ hx)), List.foldl_cons, Nat.mul_comm]
theorem atoi_digs {l : List UInt8} (h0 : l ≠ []) (h : ∀ c ∈ l, isDig c = true) : Lib.atoi l = some ((numV l : Nat) : Int) := by
  cases l with
  | nil => exact absurd rfl h0
  | cons c r =>
    have hc := h c (List.mem_cons_self ..)
    unfold isDig at hc
    simp only [Bool.and_eq_true, decide_eq_true_eq] at hc
    change (if (c == 45) = true then _ else if (c == 43) = true then _ else _) = _
    rw [if_neg (by intro e; rw [eq_of_beq e] at hc; exact absurd hc.1 (by decide)), if_neg (by intro e; rw [eq_of_beq e] at hc; exact absurd hc.1 (by decide))]
    unfold Lib.decNat
    rw [if_neg (by simp), decFrom_digs _ _ h]
    rfl
theorem cur_memT {L : List Tk} {s : PS} (h : s.i < L.length) : curT L s ∈ L := by
  unfold curT
  rw [List.getD_eq_getElem?_getD, List.getElem?_eq_getElem h]
  exact List.getElem_mem h

/-- Where a number must stand. -/
def numQ (L : List Tk) (s : PS) : PS := if (curT L s).kind = 2 then s.go else { s with e := 11, pos := (curT L s).pos }
end Go.Proofs.YtlgfijjkbomejaaGreatDoor

/- The code's comparison, prefix and unary, over what they are asked of; expr. Numbers and types by name. -/
namespace Go.Proofs.YtlgfijjkbomejaaGreatDoor
open Go.RowKit Go.Lib
set_option maxRecDepth 100000

/-- Within such a piece, without a block of its own. -/
structure EdAt (w0 w wr : World) (b : Nat) (L : List Tk) (v v1 : Value) (m : Nat) (s : PS) (l : List Nd) : Prop where
  r : Psr w0 wr b L s
  o : OwnN wr (b + 1) v1 m l
  c : Chg (b :: rowF v) w wr
  f : FromRow w v v1
theorem EdAt.keep {w0 w wr w1 : World} {b : Nat} {L : List Tk} {v v1 : Value} {m : Nat} {s s1 : PS} {l : List Nd} (h : EdAt w0 w wr b L v v1 m s l) (hr : Psr w0 w1 b L s1) (hc : Chg [b] wr w1) : EdAt w0 w w1 b L v v1 m s1 l :=
  ⟨hr, h.o.keep hc, h.c.more h.f hc (fun x hx => .inl (by simpa using hx)), h.f⟩
theorem EcAt.drew {w0 w wr : World} {b : Nat} {L : List Tk} {v v1 : Value} {m T : Nat} {ob : Obj} {s : PS} {l : List Nd} (h : EcAt w0 w wr b L v v1 m T ob s l) : EcAt w0 w wr.drew b L v v1 m T ob s l :=
  ⟨h.r.chg ((Chg.refl [] wr).drew) (fun x hx => by cases hx), h.o.chg ((Chg.refl [] wr).drew) (fun k _ hk => by cases hk), h.c.drew, h.f, h.z, h.nb, h.nr, h.new⟩
theorem EcAt.ed {w0 w wr : World} {b : Nat} {L : List Tk} {v v1 : Value} {m T : Nat} {ob : Obj} {s : PS} {l : List Nd} (h : EcAt w0 w wr b L v v1 m T ob s l) : EdAt w0 w wr b L v v1 m s l := ⟨h.r, h.o, h.c, h.f⟩
/-- A new block of its own. -/
theorem EcAt.mk' {w0 w : World} {b : Nat} {L : List Tk} {v : Value} {m : Nat} {s : PS} {l : List Nd} (hr : Psr w0 w b L s) (ho : OwnN w (b + 1) v m l) (ob : Obj) : EcAt w0 w (w.alloc ob) b L v v m w.heap.size ob s l :=
  ⟨hr.chg ((Chg.refl [] w).alloc _) (fun x hx => by cases hx), ho.chg ((Chg.refl [] w).alloc _) (fun k _ hk => by cases hk), (Chg.refl _ w).alloc _, FromRow.refl _ _, heap_alloc_new _ _, hr.blt, fun hx => by
      have := (ho.2.lt _ (rowF_mem.1 hx)).2
      omega, Nat.le_refl _⟩
theorem EcAt.after1 {w0 w w1 w2 : World} {b : Nat} {L : List Tk} {v : Value} {m : Nat} {s : PS} {l : List Nd} (hr : Psr w0 w1 b L s) (ho : OwnN w (b + 1) v m l) (hc : Chg [b] w w1) (ob : Obj) (e : w2 = w1.alloc ob) : EcAt w0 w w2 b L v v m w1.heap.size ob s l := by
  subst e
  have ho1 := ho.keep hc
  exact ⟨hr.chg ((Chg.refl [] w1).alloc _) (fun x hx => by cases hx), ho1.chg ((Chg.refl [] w1).alloc _) (fun k _ hk => by cases hk), (hc.mono (fun x hx => by rw [List.mem_singleton] at hx; rw [hx]; exact List.mem_cons_self ..)).alloc _, FromRow.refl _ _, heap_alloc_new _ _, hr.blt, fun hx => by
      have := (ho1.2.lt _ (rowF_mem.1 hx)).2
      omega, hc.size⟩
theorem open_words {t : List UInt8} (h : t = [45] ∨ t = [33] ∨ t = [40]) : t ∈ wordsL := by rcases h with rfl | rfl | rfl <;> decide

end Go.Proofs.YtlgfijjkbomejaaGreatDoor

namespace Go.Proofs.YtlgfijjkbomejaaGreatDoor
open Go.RowKit Go.Lib
set_option maxRecDepth 100000

theorem tokO_info (t : Tk) : (Tryz.prog.info? 117).map (·.size) = some (#[Value.int .i64 t.kind, .string (tx t.text), .int .i64 (t.pos : Int)]).size := tok_info t
theorem isT_not {L : List Tk} {s : PS} {t : List UInt8} (hw : isT L s t = decide ((curT L s).text = t)) (h : ¬ (curT L s).text = t) : isT L s t = false := by rw [hw, decide_eq_false h]

/-- What an expression from its beginning leaves: nodes in new memory. -/
def NdsC (w : World) (l : List Nd) : World → Ending → Prop := fun w' e => ∃ ao m c, e = .returned (.slice ao m c) ∧ m ≤ 20000 ∧ NodesP w' (fun k => w.heap.size ≤ k ∧ k < w'.heap.size) (.slice ao m c) m l
end Go.Proofs.YtlgfijjkbomejaaGreatDoor
