/- Slices that can be read, own rows of bytes, append of what can be read, string(b). Numbers and types by name. -/
import Derived.Test.YtlgfijjkbomejaaGreatDoorChecked
import Derived.WalkKit
import Derived.WalkLawsBesides
import Derived.Lib.Hide
import Derived.BigQuiet
import Derived.Deep.QuietTactic
import Derived.ArgAppend
import Derived.OwnWalk
import Derived.Deep.RegionLaw
import Derived.Deep.AppendLies
import Derived.Lib.AppendStr
import Derived.Laws.IdiomStrings
import Derived.Lib.SlBytesConst
namespace Go.Proofs.YtlgfijjkbomejaaGreatDoor
open Go.RowKit Go.Lib

/-- A slice value whose elements, each of one cell, are xs. -/
def Reads (w : World) (v : Value) (xs : List Value) : Prop :=
  ∃ ao cap, v = .slice ao xs.length cap ∧ xs.length ≤ cap ∧ (ao = none → xs = [] ∧ cap = 0) ∧ ∀ a, ao = some a → ∀ j u, xs[j]? = some u → w.cell? (a.add j) = some u

def bv (l : List UInt8) : List Value := l.map fun b => Value.int .u8 (b.toNat : Int)
def iv (l : List Int) : List Value := l.map (Value.int .i64)

theorem bv_length (l : List UInt8) : (bv l).length = l.length := by simp [bv]
theorem iv_length (l : List Int) : (iv l).length = l.length := by simp [iv]
theorem bv_one (l : List UInt8) : ∀ u ∈ bv l, u.oneCell' = true := by
  intro u hu; simp only [bv, List.mem_map] at hu; obtain ⟨b, _, rfl⟩ := hu; rfl
theorem iv_one (l : List Int) : ∀ u ∈ iv l, u.oneCell' = true := by
  intro u hu; simp only [iv, List.mem_map] at hu; obtain ⟨b, _, rfl⟩ := hu; rfl

theorem Reads.nil (w : World) : Reads w (.slice none 0 0) [] := ⟨none, 0, rfl, Nat.le_refl _, fun _ => ⟨rfl, rfl⟩, fun a h => by cases h⟩

theorem Reads.own {w : World} {base e : Nat} {v : Value} {xs : List Value} (h : w.ownsRow base e 1 v xs.length xs) : Reads w v xs := by
  rcases h.2 with ⟨rfl, h0⟩ | ⟨g, cap, cur, rfl, _, hg, hc, _, hs, ht⟩
  · obtain rfl : xs = [] := List.eq_nil_of_length_eq_zero h0
    exact Reads.nil w
  · refine ⟨some ⟨g, 0, none⟩, cap, rfl, hc, (fun h => by cases h), fun a ha j u hj => ?_⟩
    cases ha
    have hlt : j < xs.length := (List.getElem?_eq_some_iff.1 hj).1
    have hx : xs[j]? = cur[j]? := by
      rw [← ht, List.getElem?_take, if_pos (by omega)]
      simp
    show w.cell? ((⟨g, 0, none⟩ : Addr).add j) = some u
    rw [Addr.add_lit]
    simp only [World.cell?, hg, Nat.zero_add]
    rw [← hx, hj]
    simp

/-- What was read is read behind new blocks, and behind writes to another block. -/
theorem Reads.grown {w w' : World} {v : Value} {xs : List Value} {row : Option Nat} (h : Reads w v xs) (hg : w.grownBy w' row) (hne : ∀ a n c, v = .slice (some a) n c → some a.block ≠ row) : Reads w' v xs := by
  obtain ⟨ao, cap, rfl, h0, h1, h2⟩ := h
  refine ⟨ao, cap, rfl, h0, h1, fun a ha j u hj => ?_⟩
  have := h2 a ha j u hj
  have hb : (a.add j).block = a.block := by unfold Addr.add; split <;> rfl
  exact hg.cell this (by rw [hb]; exact hne a _ _ (by rw [ha]))
theorem Reads.alloc {w : World} {v : Value} {xs : List Value} (h : Reads w v xs) (o : Obj) : Reads (w.alloc o) v xs := h.grown (World.grownBy_alloc w o none) (by intro a n c _; simp)

theorem owns_shape {w : World} {base e : Nat} {v : Value} {n : Nat} {xs : List Value} (h : w.ownsRow base e 1 v n xs) : ∃ ao c, v = .slice ao n c := by
  rcases h.2 with ⟨rfl, rfl⟩ | ⟨g, cap, cur, rfl, _⟩
  · exact ⟨none, 0, rfl⟩
  · exact ⟨_, _, rfl⟩

theorem owns_base {w : World} {base base' e size : Nat} {v : Value} {n : Nat} {xs : List Value} (h : w.ownsRow base e size v n xs) (hb : base' ≤ base) : w.ownsRow base' e size v n xs := by
  refine ⟨h.1, h.2.imp id ?_⟩
  rintro ⟨g, cap, cur, h1, h2, h3⟩
  exact ⟨g, cap, cur, h1, Nat.le_trans hb h2, h3⟩

theorem grown_refl (w : World) (row : Option Nat) : w.grownBy w row := ⟨rfl, rfl, rfl, Nat.le_refl _, fun _ _ _ => rfl⟩
theorem grown_trans {a b c : World} {row : Option Nat} (h : a.grownBy b row) (k : b.grownBy c row) : a.grownBy c row :=
  ⟨k.os.trans h.os, k.tape.trans h.tape, k.output.trans h.output, Nat.le_trans h.size k.size, fun i hi hn => (k.block i (Nat.lt_of_lt_of_le hi h.size) hn).trans (h.block i hi hn)⟩
theorem grown_set {a w : World} {b : Nat} (h : a.grownBy w (some b)) (j : Nat) (v : Value) : a.grownBy (w.setCell ⟨b, j, none⟩ v) (some b) :=
  ⟨h.os, h.tape, h.output, by have := h.size; simpa [World.setCell] using this, fun i hi hn => (Below.heap_setCell _ _ _ _ (fun e => hn (by rw [e]))).trans (h.block i hi hn)⟩
/-- A write to a block that is new. -/
theorem grown_set_new {a w : World} {c : Nat} {row : Option Nat} (h : a.grownBy w row) (hc : a.heap.size ≤ c) (j : Nat) (v : Value) : a.grownBy (w.setCell ⟨c, j, none⟩ v) row :=
  ⟨h.os, h.tape, h.output, by have := h.size; simpa [World.setCell] using this, fun i hi hn => (Below.heap_setCell _ _ _ _ (by show i ≠ c; omega)).trans (h.block i hi hn)⟩
theorem grown_any {a w : World} (h : a.grownBy w none) (row : Option Nat) : a.grownBy w row := ⟨h.os, h.tape, h.output, h.size, fun i hi _ => h.block i hi (by simp)⟩

theorem info_int : (Tryz.prog.info? 3).map (fun i => (i.zero, i.size, i.bytes)) = some (some (.int .i64 0), 1, 8) := by kernel_rfl
theorem info_byte : (Tryz.prog.info? 5).map (fun i => (i.zero, i.size, i.bytes)) = some (some (.int .u8 0), 1, 1) := by kernel_rfl

/-- append of whatever slice that can be read, to an own row of bytes. -/
theorem run_append_reads (ty : TypeId) (base : Nat) (v : Value) (n : Nat) (xs : List Value) (w : World) (hown : w.ownsRow base 5 1 v n xs) (vb : Value) (news : List Value) (hr : Reads w vb news) (h1 : ∀ u ∈ news, u.oneCell' = true)
    (h63 : Hid (n + news.length ≤ maxLen)) (hbytes : Hid ((n + news.length) * 1 ≤ 140737488355328)) (hbase : base ≤ w.heap.size) :
    ∃ ao c w', (Builtin.append_ #[45, 45] ty #[v, vb]).run Tryz.prog w = .ok (.slice ao (n + news.length) c) w' ∧ w'.ownsRow base 5 1 (.slice ao (n + news.length) c) (n + news.length) (xs ++ news) ∧ w.grownBy w' v.ownBlock ∧
      ((Value.slice ao (n + news.length) c).ownBlock = v.ownBlock ∨ (Value.slice ao (n + news.length) c).ownBlock = some w.heap.size) := by
  obtain ⟨i0, hi, hz0, hz1, hz2⟩ := info_parts info_byte
  obtain ⟨ao, cap, rfl, _, hn, hc⟩ := hr
  cases ao with
  | none =>
    obtain ⟨rfl, rfl⟩ := hn rfl
    obtain ⟨ao, c, rfl⟩ := owns_shape hown
    have := run_append_owned_none (P := Tryz.prog) w base 45 ty 5 i0 1 Tryz.underlying45 hi (.slice ao n c) n xs hown
    exact ⟨ao, c, w, this, by simpa using hown, grown_refl _ _, .inl rfl⟩
  | some a =>
    obtain ⟨v', w', hr, h2, h3, _, h5⟩ := run_append_own_at (P := Tryz.prog) w base 45 ty 5 i0 (.int .u8 0) 1 1 Tryz.underlying45 hi hz0 hz1 hz2 rfl (by decide) v n xs hown a news.length cap news (by simp) (hc a rfl) h1 h63.out hbytes.out hbase
    obtain ⟨ao, c, rfl⟩ := owns_shape h2
    exact ⟨ao, c, w', hr, h2, h3, h5⟩

theorem step_append_reads {ops : Array Oper} {o : Oper} {a : Act} {w : World} {K : Act → World → Prop} {Q : Exit → Act → World → Prop} {E : Prop} (hgd : o.guard = none) (s x : Operand)
    (ho : o.op = .call { callee := .builtin .append, args := #[s, x], argTypes := #[45, 45] })
    (base : Nat) (v : Value) (n : Nat) (xs : List Value) (hs : a.eval s = v) (hown : w.ownsRow base 5 1 v n xs) (vb : Value) (news : List Value) (hx : a.eval x = vb) (hr : Reads w vb news) (h1 : ∀ u ∈ news, u.oneCell' = true)
    (h63 : Hid (n + news.length ≤ maxLen)) (hbytes : Hid ((n + news.length) * 1 ≤ 140737488355328)) (hbase : base ≤ w.heap.size)
    (h : ∀ ao c w', w'.ownsRow base 5 1 (.slice ao (n + news.length) c) (n + news.length) (xs ++ news) → w.grownBy w' v.ownBlock → ((Value.slice ao (n + news.length) c).ownBlock = v.ownBlock ∨ (Value.slice ao (n + news.length) c).ownBlock = some w.heap.size) → K (a.put o.dst (.slice ao (n + news.length) c)) w') :
    if Region.wanted o (yielded ops a.tmps) = true then Oper.wp Tryz.prog o a w K Q else E := by
  have hw : Region.wanted o (yielded ops a.tmps) = true := by simp [Region.wanted, hgd]
  rw [if_pos hw]
  obtain ⟨ao, c, w', hr, h2, h3, h4⟩ := run_append_reads o.type base v n xs w hown vb news hr h1 h63 hbytes hbase
  unfold Oper.wp execOp
  simp only [ho, resolve, invoke, builtin, Sem.run_bind, Sem.run_pure, Result.andThen_ok, List.map_toArray, List.map_cons, List.map_nil, hs, hx, hr]
  exact h ao c w' h2 h3 h4

/-- A new row of one cell each. -/
theorem Reads.lit (w : World) (xs : List Value) (t : TypeId) (fr : Nat × Nat) (n : Nat) (hn : n = xs.length) : Reads (w.alloc (.cells xs.toArray t fr)) (.slice (some ⟨w.heap.size, 0, none⟩) n n) xs := by
  subst hn
  refine ⟨some ⟨w.heap.size, 0, none⟩, xs.length, rfl, Nat.le_refl _, (fun h => by cases h), fun a ha j u hj => ?_⟩
  cases ha
  rw [Addr.add_lit, World.cell?_alloc_mark]
  simpa using hj

/-- string(b). -/
theorem conv_reads {w : World} {v : Value} {l : List UInt8} (h : Reads w v (bv l)) : (convert 45 9 v).run Tryz.prog w = .ok (.string ⟨l.toArray⟩) w := by
  obtain ⟨ao, cap, rfl, _, hn, hc⟩ := h
  cases ao with
  | none =>
    obtain ⟨h0, rfl⟩ := hn rfl
    obtain rfl : l = [] := by simpa [bv] using h0
    rw [run_convert_bytes_string w 45 9 5 _ _ _ Tryz.underlying45 Tryz.underlying5 Tryz.underlying9]
    simp [Conv.bytesToString]
    rfl
  | some a =>
    rw [bv_length]
    refine run_convert_bytes_back w 45 9 5 a cap l Tryz.underlying45 Tryz.underlying5 Tryz.underlying9 (fun j hj => ?_)
    exact hc a rfl j _ (by simp [bv, hj])

theorem owns_reads {w : World} {base : Nat} {ao : Option Addr} {c : Nat} {l : List UInt8} (h : w.ownsRow base 5 1 (.slice ao l.length c) l.length (bv l)) : Reads w (.slice ao l.length c) (bv l) := Reads.own (by simpa [bv_length] using h)


/-- A slice of bytes of the call's own (its block is base or newer), that holds l. -/
def Bs (w : World) (base : Nat) (v : Value) (n : Nat) (l : List UInt8) : Prop := n = l.length ∧ w.ownsRow base 5 1 v n (bv l)

theorem Bs.reads {w : World} {base : Nat} {v : Value} {n : Nat} {l : List UInt8} (h : Bs w base v n l) : Reads w v (bv l) := by
  obtain ⟨rfl, h⟩ := h
  exact Reads.own (by simpa [bv_length] using h)
theorem Bs.shape {w : World} {base : Nat} {v : Value} {n : Nat} {l : List UInt8} (h : Bs w base v n l) : ∃ ao c, v = .slice ao n c := owns_shape h.2
theorem Bs.alloc {w : World} {base : Nat} {v : Value} {n : Nat} {l : List UInt8} (h : Bs w base v n l) (o : Obj) : Bs (w.alloc o) base v n l := ⟨h.1, h.2.alloc o⟩
theorem Bs.drewN {w : World} {base : Nat} {v : Value} {n : Nat} {l : List UInt8} (h : Bs w base v n l) (k : Nat) : Bs (w.drewN k) base v n l := h
theorem Bs.base {w : World} {base base' : Nat} {v : Value} {n : Nat} {l : List UInt8} (h : Bs w base v n l) (hb : base' ≤ base) : Bs w base' v n l := ⟨h.1, owns_base h.2 hb⟩

theorem below_grown_own {w w' : World} {base : Nat} {v : Value} {n : Nat} {xs : List Value} {e size : Nat} (hown : w.ownsRow base e size v n xs) (hg : w.grownBy w' v.ownBlock) (hbase : base ≤ w.heap.size) : Below base w w' :=
  ⟨hg.os, hg.tape, hg.output, hg.size, fun k hk => hg.block k (by omega) (fun e => by have := (hown.lt k e.symm).1; omega)⟩

theorem Reads.below {w w' : World} {v : Value} {xs : List Value} {B : Nat} (h : Reads w v xs) (hb : Below B w w') (hlt : ∀ a n c, v = .slice (some a) n c → a.block < B) : Reads w' v xs := by
  obtain ⟨ao, cap, rfl, h0, h1, h2⟩ := h
  refine ⟨ao, cap, rfl, h0, h1, fun a ha j u hj => ?_⟩
  have hc := h2 a ha j u hj
  have hbk : (a.add j).block = a.block := by unfold Addr.add; split <;> rfl
  rw [World.cell?_of_block (hb.block _ (by rw [hbk]; exact hlt a _ _ (by rw [ha])))]
  exact hc

theorem strCells_bv (s : ByteArray) : strCells s = bv s.data.toList := by simp [strCells, bv]

/-- append of what can be read to an own row, in a plain region. -/
theorem wpList_append_bytes {ops : Array Oper} {rest : List Oper} {o : Oper} {a : Act} {w : World} {Q : Exit → Act → World → Prop} (hgd : o.guard = none) (s x : Operand)
    (ho : o.op = .call { callee := .builtin .append, args := #[s, x], argTypes := #[45, 45] })
    (base : Nat) (v : Value) (n : Nat) (l : List UInt8) (hs : a.eval s = v) (hown : Bs w base v n l) (vb : Value) (m : Nat) (k : List UInt8) (hm : m = k.length) (hx : a.eval x = vb) (hr : Reads w vb (bv k))
    (p : Nat) (hp : p = n + m) (h63 : Hid (p ≤ maxLen)) (hbytes : Hid (p * 1 ≤ 140737488355328)) (hbase : base ≤ w.heap.size)
    (h : ∀ ao c w', Bs w' base (.slice ao p c) p (l ++ k) → Below base w w' → wpList Tryz.prog ops Q rest (a.put o.dst (.slice ao p c)) w') : wpList Tryz.prog ops Q (o :: rest) a w := by
  subst hm hp
  obtain ⟨hn, hown⟩ := hown
  refine wpList_plain hgd fun K hK => ?_
  obtain ⟨ao, c, w', hr', h2, h3, _⟩ := run_append_reads o.type base v n (bv l) w hown vb (bv k) hr (bv_one k) (by rw [bv_length]; exact h63) (by rw [bv_length]; exact hbytes) hbase
  rw [bv_length] at hr' h2
  unfold Oper.wp execOp
  simp only [ho, resolve, invoke, builtin, Sem.run_bind, Sem.run_pure, Result.andThen_ok, List.map_toArray, List.map_cons, List.map_nil, hs, hx, hr']
  refine hK _ _ (h ao c w' ⟨by rw [hn, List.length_append], ?_⟩ (below_grown_own hown h3 hbase))
  simpa [bv] using h2

/-- append(b, s...) of a text. -/
theorem wpList_append_text {ops : Array Oper} {rest : List Oper} {o : Oper} {a : Act} {w : World} {Q : Exit → Act → World → Prop} (hgd : o.guard = none) (s x : Operand)
    (ho : o.op = .call { callee := .builtin .append, args := #[s, x], argTypes := #[45, 9] })
    (base : Nat) (v : Value) (n : Nat) (l : List UInt8) (hs : a.eval s = v) (hown : Bs w base v n l) (t : ByteArray) (hx : a.eval x = .string t)
    (p : Nat) (hp : p = n + t.size) (h63 : Hid (p ≤ maxLen)) (hbytes : Hid (p ≤ 140737488355328)) (hbase : base ≤ w.heap.size)
    (h : ∀ ao c w', Bs w' base (.slice ao p c) p (l ++ t.data.toList) → Below base w w' → wpList Tryz.prog ops Q rest (a.put o.dst (.slice ao p c)) w') : wpList Tryz.prog ops Q (o :: rest) a w := by
  subst hp
  obtain ⟨hn, hown⟩ := hown
  obtain ⟨i0, hi, hz0, hz1, hz2⟩ := info_parts info_byte
  refine wpList_plain hgd fun K hK => ?_
  obtain ⟨v', w', hr', h2, h3, _⟩ := run_append_own_string (P := Tryz.prog) w base 45 9 o.type 5 i0 Tryz.underlying45 Tryz.underlying9 hi hz0 hz1 hz2 v n (bv l) hown t h63.out hbytes.out hbase
  obtain ⟨ao, c, rfl⟩ := owns_shape h2
  unfold Oper.wp execOp
  simp only [ho, resolve, invoke, builtin, Sem.run_bind, Sem.run_pure, Result.andThen_ok, List.map_toArray, List.map_cons, List.map_nil, hs, hx, hr']
  refine hK _ _ (h ao c w' ⟨by rw [hn, List.length_append]; rfl, ?_⟩ (below_grown_own hown h3 hbase))
  rw [strCells_bv] at h2
  simpa [bv] using h2

theorem below_none {w w' : World} (hg : w.grownBy w' none) {base : Nat} (hbase : base ≤ w.heap.size) : Below base w w' :=
  ⟨hg.os, hg.tape, hg.output, hg.size, fun k hk => hg.block k (by omega) (by simp)⟩

/-- make([]byte, 0, n). -/
theorem wpList_make_bytes {ops : Array Oper} {rest : List Oper} {o : Oper} {a : Act} {w : World} {Q : Exit → Act → World → Prop} (hgd : o.guard = none) (s x : Operand) (ho : o.op = Op.makeSlice 45 s x)
    (base n : Nat) (C : Int) (hl : a.eval s = .int .i64 0) (hc : a.eval x = .int .i64 C) (hC : C = (n : Int)) (h63 : Hid (n ≤ 140737488355328)) (hbase : base ≤ w.heap.size)
    (h : ∀ w', Bs w' base (.slice (some ⟨w.heap.size, 0, none⟩) 0 n) 0 [] → Below base w w' → w.heap.size < w'.heap.size → wpList Tryz.prog ops Q rest (a.put o.dst (.slice (some ⟨w.heap.size, 0, none⟩) 0 n)) w') : wpList Tryz.prog ops Q (o :: rest) a w := by
  obtain ⟨i0, hi, hz0, hz1, hz2⟩ := info_parts info_byte
  have hm := h63.out
  refine wpList_make_own w hgd s x _ ho base 5 i0 _ 1 Tryz.underlying45 hi hz0 hz1 .i64 .i64 C n hl hc hC (by rw [hz2]; omega) (by unfold maxLen; omega) hbase fun w' hown hg => h w' ⟨rfl, hown⟩ (below_none hg hbase) (hown.lt _ rfl).2

theorem wrap64_id (n : Int) (h : -9223372036854775808 ≤ n ∧ n ≤ 9223372036854775807) : wrap64 n = n := by unfold wrap64; omega

end Go.Proofs.YtlgfijjkbomejaaGreatDoor
