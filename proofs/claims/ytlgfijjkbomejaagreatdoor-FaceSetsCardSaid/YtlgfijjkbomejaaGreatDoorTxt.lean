/- Lists of texts: plain facts, lists that are read, own ones. Numbers and types by name. -/
import Derived.Test.YtlgfijjkbomejaaGreatDoorBel
import Derived.Test.YtlgfijjkbomejaaGreatDoorBe4
/- Parts of what can be read; own rows beside others. Numbers and types by name. -/
namespace Go.Proofs.YtlgfijjkbomejaaGreatDoor
open Go.RowKit Go.Lib

theorem Reads.drop {w : World} {a : Addr} {n c : Nat} {l : List UInt8} (h : Reads w (.slice (some a) n c) (bv l)) (k : Nat) (hk : k ≤ n) (b : Addr) (hb : b = a.add k ∨ l.length = k) : Reads w (.slice (some b) (n - k) (c - k)) (bv (l.drop k)) := by
  obtain ⟨ao', c', e, h0, _, h2⟩ := h
  simp only [Value.slice.injEq, bv_length] at e h0
  obtain ⟨e1, rfl, rfl⟩ := e
  refine ⟨some b, c - k, by rw [bv_length, List.length_drop], by rw [bv_length, List.length_drop]; omega, (fun e => by cases e), fun a' ha j u hj => ?_⟩
  cases ha
  have hj2 := (List.getElem?_eq_some_iff.1 hj).1
  rw [bv_length, List.length_drop] at hj2
  rcases hb with rfl | hb
  · rw [Addr.add_add]
    refine h2 a e1.symm (k + j) u ?_
    rw [← hj]
    simp [bv]
  · omega

theorem Reads.prefix {w : World} {ao : Option Addr} {n c : Nat} {l : List UInt8} (h : Reads w (.slice ao n c) (bv l)) (k : Nat) (hk : k ≤ n) : Reads w (.slice ao k c) (bv (l.take k)) := by
  obtain ⟨ao', c', e, h0, h1, h2⟩ := h
  simp only [Value.slice.injEq, bv_length] at e h0
  obtain ⟨rfl, rfl, rfl⟩ := e
  refine ⟨ao, c, by rw [bv_length, List.length_take]; congr 1; omega, by rw [bv_length, List.length_take]; omega, fun e => ?_, fun a ha j u hj => ?_⟩
  · have h3 := h1 e
    have : l = [] := by simpa [bv] using h3.1
    subst this
    exact ⟨by simp [bv], h3.2⟩
  · refine h2 a ha j u ?_
    rw [← hj]
    have hj2 := (List.getElem?_eq_some_iff.1 hj).1
    rw [bv_length, List.length_take] at hj2
    simp [bv, List.getElem?_take, (by omega : j < k)]

theorem Reads.take {w : World} {a : Addr} {n c : Nat} {l : List UInt8} (h : Reads w (.slice (some a) n c) (bv l)) (k : Nat) (hk : k ≤ n) : Reads w (.slice (some a) k c) (bv (l.take k)) := h.prefix k hk

theorem Reads.byte {w : World} {ao : Option Addr} {n c : Nat} {l : List UInt8} (h : Reads w (.slice ao n c) (bv l)) {k : Nat} (hk : k < n) : ∃ a x, ao = some a ∧ l[k]? = some x ∧ w.cell? (a.add k) = some (.int .u8 ((x : UInt8).toNat : Int)) := by
  obtain ⟨ao', c', e, h0, h1, h2⟩ := h
  simp only [Value.slice.injEq, bv_length] at e h0
  obtain ⟨rfl, rfl, rfl⟩ := e
  have hx : l[k]? = some l[k] := List.getElem?_eq_getElem hk
  cases ao with
  | none => have := (h1 rfl).1; have : l = [] := by simpa [bv] using this
            subst this; simp at hk
  | some a => exact ⟨a, l[k], rfl, hx, h2 a rfl k _ (by simp [bv, hx])⟩

theorem Bs.empty_at (w : World) (base z : Nat) (hz : z = w.heap.size) (hb : base ≤ w.heap.size) : Bs (w.alloc (.cells #[] 5)) base (.slice (some ⟨z, 0, none⟩) 0 0) 0 [] := by
  subst hz
  exact Bs.empty w base hb

/-- An own row that is not empty begins its block. -/
theorem Bs.begins {w : World} {base : Nat} {ao : Option Addr} {n c : Nat} {l : List UInt8} (h : Bs w base (.slice ao n c) n l) (h0 : 0 < n) : ∃ g, ao = some ⟨g, 0, none⟩ ∧ base ≤ g ∧ g < w.heap.size ∧ n ≤ c := by
  obtain ⟨hn, h2, h1 | ⟨g, cap, cur, h1, hb, hg, hnc, _⟩⟩ := h
  · omega
  · simp only [Value.slice.injEq] at h1
    obtain ⟨rfl, _, rfl⟩ := h1
    exact ⟨g, rfl, hb, (Array.getElem?_eq_some_iff.1 hg).1, hnc⟩

theorem owns_grown {w w' : World} {base e size : Nat} {v : Value} {n : Nat} {xs : List Value} {row : Option Nat} (h : w.ownsRow base e size v n xs) (hg : w.grownBy w' row) (hne : ∀ g, v.ownBlock = some g → row ≠ some g) : w'.ownsRow base e size v n xs := by
  refine ⟨h.1, h.2.imp id ?_⟩
  rintro ⟨g, cap, cur, h1, h2, h3, h4⟩
  refine ⟨g, cap, cur, h1, h2, ?_, h4⟩
  have hv : v.ownBlock = some g := by rw [h1]; rfl
  rw [hg.block g (h.lt g hv).2 (fun e => hne g hv e.symm)]
  exact h3

/-- Rows of unlike kinds are apart. -/
theorem owns_apart {w : World} {base base' e e' size size' : Nat} {v v' : Value} {n n' : Nat} {xs xs' : List Value} (h : w.ownsRow base e size v n xs) (k : w.ownsRow base' e' size' v' n' xs') (hee : e ≠ e') : ∀ g, v.ownBlock = some g → v'.ownBlock ≠ some g := by
  intro g hv hv'
  rcases h.2 with ⟨rfl, _⟩ | ⟨g1, cap, cur, h1, h2, h3, h4⟩
  · cases hv
  rcases k.2 with ⟨rfl, _⟩ | ⟨g2, cap', cur', k1, k2, k3, k4⟩
  · cases hv'
  have e1 : g1 = g := by rw [h1] at hv; exact Option.some.inj hv
  have e2 : g2 = g := by rw [k1] at hv'; exact Option.some.inj hv'
  subst e1
  subst e2
  rw [h3] at k3
  simp only [Option.some.injEq, Obj.cells.injEq] at k3
  exact hee k3.2.1

/-- append of what can be read to an own row: which blocks it writes. -/
theorem wpList_append_bytes_at {ops : Array Oper} {rest : List Oper} {o : Oper} {a : Act} {w : World} {Q : Exit → Act → World → Prop} (hgd : o.guard = none) (s x : Operand)
    (ho : o.op = .call { callee := .builtin .append, args := #[s, x], argTypes := #[45, 45] })
    (base : Nat) (v : Value) (n : Nat) (l : List UInt8) (hs : a.eval s = v) (hown : Bs w base v n l) (vb : Value) (m : Nat) (k : List UInt8) (hm : m = k.length) (hx : a.eval x = vb) (hr : Reads w vb (bv k))
    (p : Nat) (hp : p = n + m) (h63 : Hid (p ≤ maxLen)) (hbytes : Hid (p * 1 ≤ 140737488355328)) (hbase : base ≤ w.heap.size)
    (h : ∀ ao c w', Bs w' base (.slice ao p c) p (l ++ k) → Below base w w' → w.grownBy w' v.ownBlock → wpList Tryz.prog ops Q rest (a.put o.dst (.slice ao p c)) w') : wpList Tryz.prog ops Q (o :: rest) a w := by
  subst hm hp
  obtain ⟨hn, hown⟩ := hown
  refine wpList_plain hgd fun K hK => ?_
  obtain ⟨ao, c, w', hr', h2, h3, _⟩ := run_append_reads o.type base v n (bv l) w hown vb (bv k) hr (bv_one k) (by rw [bv_length]; exact h63) (by rw [bv_length]; exact hbytes) hbase
  rw [bv_length] at hr' h2
  unfold Oper.wp execOp
  simp only [ho, resolve, invoke, builtin, Sem.run_bind, Sem.run_pure, Result.andThen_ok, List.map_toArray, List.map_cons, List.map_nil, hs, hx, hr']
  refine hK _ _ (h ao c w' ⟨by rw [hn, List.length_append], ?_⟩ (below_grown_own hown h3 hbase) h3)
  simpa [bv] using h2

theorem owns_below {w w' : World} {base B e size : Nat} {v : Value} {n : Nat} {xs : List Value} (h : w.ownsRow base e size v n xs) (hb : Below B w w') (hB : w.heap.size ≤ B) : w'.ownsRow base e size v n xs := by
  refine ⟨h.1, h.2.imp id ?_⟩
  rintro ⟨g, cap, cur, h1, h2, h3, h4⟩
  refine ⟨g, cap, cur, h1, h2, ?_, h4⟩
  rw [hb.block g (by have := (h.lt g (by rw [h1]; rfl)).2; omega)]
  exact h3

end Go.Proofs.YtlgfijjkbomejaaGreatDoor

namespace Go.Proofs.YtlgfijjkbomejaaGreatDoor
open Go.RowKit Go.Lib

def sv (L : List ByteArray) : List Value := L.map Value.string

theorem sv_length (L : List ByteArray) : (sv L).length = L.length := by simp [sv]

theorem sv_one (L : List ByteArray) : ∀ u ∈ sv L, u.oneCell' = true := by
  intro u hu; simp only [sv, List.mem_map] at hu; obtain ⟨b, _, rfl⟩ := hu; rfl

/-- The texts of a list, one behind the other. -/
def encs (L : List ByteArray) : List UInt8 := L.flatMap fun s => be4 s.size ++ s.data.toList

def enc (L : List ByteArray) : List UInt8 := be4 L.length ++ encs L

/-- How much a list is: a text more than its bytes. -/
def bulk (L : List ByteArray) : Nat := (L.map fun s => 1 + s.size).sum

theorem encs_cons (s : ByteArray) (L : List ByteArray) : encs (s :: L) = be4 s.size ++ s.data.toList ++ encs L := by simp [encs]

theorem encs_append (L M : List ByteArray) : encs (L ++ M) = encs L ++ encs M := by simp [encs]

theorem bulk_cons (s : ByteArray) (L : List ByteArray) : bulk (s :: L) = 1 + s.size + bulk L := by simp [bulk]

theorem bulk_append (L M : List ByteArray) : bulk (L ++ M) = bulk L + bulk M := by simp [bulk]

theorem bulk_length (L : List ByteArray) : L.length ≤ bulk L := by
  induction L with
  | nil => simp
  | cons s L ih => rw [bulk_cons, List.length_cons]; omega

theorem bulk_mem {L : List ByteArray} {s : ByteArray} (h : s ∈ L) : 1 + s.size ≤ bulk L := by
  induction L with
  | nil => cases h
  | cons t L ih =>
    rw [bulk_cons]
    rcases List.mem_cons.1 h with rfl | h
    · omega
    · have := ih h; omega

theorem size_data (s : ByteArray) : s.data.toList.length = s.size := rfl

theorem encs_length (L : List ByteArray) : (encs L).length + L.length = 4 * L.length + bulk L := by
  induction L with
  | nil => rfl
  | cons s L ih => rw [encs_cons, bulk_cons]; simp only [List.length_append, be4_length, size_data, List.length_cons]; omega

theorem enc_length (L : List ByteArray) : (enc L).length + L.length = 4 + 4 * L.length + bulk L := by
  have := encs_length L
  simp only [enc, List.length_append, be4_length]; omega

/-- A text off the bytes. -/
def text? (b : List UInt8) : Option (List UInt8 × List UInt8) :=
  match num? b with
  | none => none
  | some (n, r) => if n ≤ r.length then some (r.take n, r.drop n) else none

/-- k texts off the bytes. -/
def texts? : Nat → List UInt8 → Option (List ByteArray × List UInt8)
  | 0, b => some ([], b)
  | k + 1, b => match text? b with
    | none => none
    | some (t, r) => match texts? k r with
      | none => none
      | some (L, q) => some (⟨t.toArray⟩ :: L, q)

/-- A list off the bytes. -/
def list? (b : List UInt8) : Option (List ByteArray × List UInt8) :=
  match num? b with
  | none => none
  | some (n, r) => texts? n r

/-- The list that all the bytes are. -/
def dec (b : List UInt8) : Option (List ByteArray) :=
  match list? b with
  | some (L, []) => some L
  | _ => none

theorem text_enc (t : ByteArray) (ht : t.size < 4294967296) (s : List UInt8) : text? (be4 t.size ++ t.data.toList ++ s) = some (t.data.toList, s) := by
  unfold text?
  rw [List.append_assoc, num_be4 _ ht]
  simp only
  rw [if_pos (by simp), List.take_left' (size_data t), List.drop_left' (size_data t)]

theorem texts_enc : ∀ (L : List ByteArray) (s : List UInt8), (∀ t ∈ L, t.size < 4294967296) → texts? L.length (encs L ++ s) = some (L, s)
  | [], s, _ => rfl
  | t :: L, s, h => by
    rw [List.length_cons, texts?, encs_cons, List.append_assoc, text_enc t (h t (by simp))]
    simp only
    rw [texts_enc L s fun u hu => h u (by simp [hu])]

theorem list_enc (L : List ByteArray) (s : List UInt8) (hl : L.length < 4294967296) (h : ∀ t ∈ L, t.size < 4294967296) : list? (enc L ++ s) = some (L, s) := by
  unfold list? enc
  rw [List.append_assoc, num_be4 _ hl]
  exact texts_enc L s h

theorem list_enc_bulk (L : List ByteArray) (s : List UInt8) (h : bulk L ≤ 2000000) : list? (enc L ++ s) = some (L, s) :=
  list_enc L s (by have := bulk_length L; omega) fun t ht => by have := bulk_mem ht; omega

theorem dec_enc (L : List ByteArray) (h : bulk L ≤ 2000000) : dec (enc L) = some L := by
  have := list_enc_bulk L [] h
  rw [List.append_nil] at this
  unfold dec
  rw [this]

theorem text_more {b t r : List UInt8} (s : List UInt8) (h : text? b = some (t, r)) : text? (b ++ s) = some (t, r ++ s) := by
  unfold text? at h ⊢
  split at h
  · cases h
  · next n q hq =>
    rw [num_more s hq]
    simp only
    split at h
    · next hl =>
      simp only [Option.some.injEq, Prod.mk.injEq] at h
      rw [if_pos (by simp; omega), List.take_append_of_le_length hl, List.drop_append_of_le_length hl, h.1, h.2]
    · cases h

theorem texts_more : ∀ (k : Nat) {b q : List UInt8} {L : List ByteArray} (s : List UInt8), texts? k b = some (L, q) → texts? k (b ++ s) = some (L, q ++ s)
  | 0, b, q, L, s, h => by
    simp only [texts?, Option.some.injEq, Prod.mk.injEq] at h ⊢
    exact ⟨h.1, by rw [h.2]⟩
  | k + 1, b, q, L, s, h => by
    rw [texts?] at h ⊢
    split at h
    · cases h
    · next t r ht =>
      rw [text_more s ht]
      simp only
      split at h
      · cases h
      · next M q' hq =>
        rw [texts_more k s hq]
        simp only [Option.some.injEq, Prod.mk.injEq] at h ⊢
        exact ⟨h.1, by rw [h.2]⟩

theorem list_more {b q : List UInt8} {L : List ByteArray} (s : List UInt8) (h : list? b = some (L, q)) : list? (b ++ s) = some (L, q ++ s) := by
  unfold list? at h ⊢
  split at h
  · cases h
  · next n r hr =>
    rw [num_more s hr]
    exact texts_more n s h

theorem dec_some {b : List UInt8} {L : List ByteArray} (h : dec b = some L) : list? b = some (L, []) := by
  unfold dec at h
  split at h
  · next M hM => cases h; exact hM
  · cases h

/-- Cut anywhere it is none. -/
theorem dec_cut (L : List ByteArray) (h : bulk L ≤ 2000000) (k : Nat) (hk : k < (enc L).length) : dec ((enc L).take k) = none := by
  cases hd : dec ((enc L).take k) with
  | none => rfl
  | some M =>
    have h1 := list_more ((enc L).drop k) (dec_some hd)
    rw [List.take_append_drop] at h1
    have h2 := list_enc_bulk L [] h
    rw [List.append_nil, h1] at h2
    simp only [Option.some.injEq, Prod.mk.injEq, List.nil_append] at h2
    have := congrArg List.length h2.2
    simp at this
    omega

/-- With a byte more it is none. -/
theorem dec_byte (L : List ByteArray) (h : bulk L ≤ 2000000) (c : UInt8) : dec (enc L ++ [c]) = none := by
  unfold dec
  rw [list_enc_bulk L [c] h]

/-- One list's bytes begin another's only where the lists are one. -/
theorem enc_prefix (L M : List ByteArray) (h : bulk L ≤ 2000000) (k : bulk M ≤ 2000000) (s : List UInt8) (e : enc M = enc L ++ s) : L = M := by
  have h1 := list_enc_bulk M [] k
  rw [List.append_nil, e, list_enc_bulk L s h] at h1
  simp only [Option.some.injEq, Prod.mk.injEq] at h1
  exact h1.1

/-- A list of texts can be read, and its texts are no longer than texts can be. -/
def Texts (w : World) (v : Value) (n : Nat) (L : List ByteArray) : Prop := n = L.length ∧ Reads w v (sv L) ∧ n ≤ maxLen ∧ ∀ s ∈ L, s.size ≤ maxLen

theorem Texts.shape {w : World} {v : Value} {n : Nat} {L : List ByteArray} (h : Texts w v n L) : ∃ ao c, v = .slice ao n c := by
  obtain ⟨rfl, ⟨ao, c, rfl, _⟩, _⟩ := h
  exact ⟨ao, c, by rw [sv_length]⟩

theorem Texts.at {w : World} {ao : Option Addr} {n c : Nat} {L : List ByteArray} (h : Texts w (.slice ao n c) n L) {k : Nat} (hk : k < n) : ∃ a s, ao = some a ∧ L[k]? = some s ∧ w.cell? (a.add k) = some (.string s) ∧ s.size ≤ maxLen := by
  obtain ⟨rfl, ⟨ao', c', e, _, hn, hc⟩, _, hs⟩ := h
  simp only [Value.slice.injEq] at e
  obtain ⟨rfl, _, _⟩ := e
  have hx : L[k]? = some L[k] := List.getElem?_eq_getElem hk
  cases ao with
  | none => have := (hn rfl).1; have : L = [] := by simpa [sv] using this
            subst this; simp at hk
  | some a => exact ⟨a, L[k], rfl, hx, hc a rfl k _ (by simp [sv, hx]), hs _ (List.getElem_mem _)⟩

theorem take_next {α : Type} {L : List α} {k : Nat} {s : α} (h : L[k]? = some s) : L.take (k + 1) = L.take k ++ [s] := by rw [List.take_add_one, h]; rfl

theorem Texts.below {w w' : World} {v : Value} {n : Nat} {L : List ByteArray} (h : Texts w v n L) (hb : Below w.heap.size w w') : Texts w' v n L := by
  refine ⟨h.1, ?_, h.2.2⟩
  obtain ⟨ao, cap, rfl, h0, h1, h2⟩ := h.2.1
  refine ⟨ao, cap, rfl, h0, h1, fun a ha j u hj => ?_⟩
  have hc := h2 a ha j u hj
  rw [World.cell?_of_block (hb.block _ (World.block_lt_of_cell? w _ hc))]
  exact hc

theorem encs_take {L : List ByteArray} {k : Nat} {s : ByteArray} (h : L[k]? = some s) : encs (L.take (k + 1)) = encs (L.take k) ++ be4 s.size ++ s.data.toList := by
  rw [take_next h, encs_append]; simp [encs]

theorem encs_take_le (L : List ByteArray) (k : Nat) : (encs (L.take k)).length ≤ (encs L).length := by
  have : encs L = encs (L.take k) ++ encs (L.drop k) := by rw [← encs_append, List.take_append_drop]
  rw [this, List.length_append]; omega

theorem Texts.lit (w : World) (L : List ByteArray) (fr : Nat × Nat) (n : Nat) (hn : n = L.length) (hn2 : n ≤ maxLen) (hs : ∀ s ∈ L, s.size ≤ maxLen) : Texts (w.alloc (.cells (sv L).toArray 9 fr)) (.slice (some ⟨w.heap.size, 0, none⟩) n n) n L :=
  ⟨hn, Reads.lit w (sv L) 9 fr n (by rw [sv_length]; exact hn), hn2, hs⟩

theorem info_string : (Tryz.prog.info? 9).map (fun i => (i.zero, i.size, i.bytes)) = some (some (.string ⟨#[]⟩), 1, 16) := by kernel_rfl

/-- A slice of texts of the call's own. -/
def Ss (w : World) (base : Nat) (v : Value) (n : Nat) (L : List ByteArray) : Prop := n = L.length ∧ w.ownsRow base 9 1 v n (sv L)

theorem Ss.alloc {w : World} {base : Nat} {v : Value} {n : Nat} {L : List ByteArray} (h : Ss w base v n L) (o : Obj) : Ss (w.alloc o) base v n L := ⟨h.1, h.2.alloc o⟩

theorem Ss.reads {w : World} {base : Nat} {v : Value} {n : Nat} {L : List ByteArray} (h : Ss w base v n L) : Reads w v (sv L) := by
  obtain ⟨rfl, h⟩ := h
  exact Reads.own (by simpa [sv_length] using h)

theorem Ss.texts {w : World} {base : Nat} {v : Value} {n : Nat} {L : List ByteArray} (h : Ss w base v n L) (hn : n ≤ maxLen) (hs : ∀ s ∈ L, s.size ≤ maxLen) : Texts w v n L := ⟨h.1, h.reads, hn, hs⟩

/-- append of whatever slice that can be read, to an own row of texts. -/
theorem run_append_strs (ty : TypeId) (base : Nat) (v : Value) (n : Nat) (xs : List Value) (w : World) (hown : w.ownsRow base 9 1 v n xs) (vb : Value) (news : List Value) (hr : Reads w vb news) (h1 : ∀ u ∈ news, u.oneCell' = true)
    (h63 : Hid (n + news.length ≤ maxLen)) (hbytes : Hid ((n + news.length) * 16 ≤ 140737488355328)) (hbase : base ≤ w.heap.size) :
    ∃ ao c w', (Builtin.append_ #[36, 36] ty #[v, vb]).run Tryz.prog w = .ok (.slice ao (n + news.length) c) w' ∧ w'.ownsRow base 9 1 (.slice ao (n + news.length) c) (n + news.length) (xs ++ news) ∧ w.grownBy w' v.ownBlock ∧
      ((Value.slice ao (n + news.length) c).ownBlock = v.ownBlock ∨ (Value.slice ao (n + news.length) c).ownBlock = some w.heap.size) := by
  obtain ⟨i0, hi, hz0, hz1, hz2⟩ := info_parts info_string
  obtain ⟨ao, cap, rfl, _, hn, hc⟩ := hr
  cases ao with
  | none =>
    obtain ⟨rfl, rfl⟩ := hn rfl
    obtain ⟨ao, c, rfl⟩ := owns_shape hown
    have := run_append_owned_none (P := Tryz.prog) w base 36 ty 9 i0 1 Tryz.underlying36 hi (.slice ao n c) n xs hown
    exact ⟨ao, c, w, this, by simpa using hown, grown_refl _ _, .inl rfl⟩
  | some a =>
    obtain ⟨v', w', hr, h2, h3, _, h5⟩ := run_append_own_at (P := Tryz.prog) w base 36 ty 9 i0 (.string ⟨#[]⟩) 1 16 Tryz.underlying36 hi hz0 hz1 hz2 rfl (by decide) v n xs hown a news.length cap news (by simp) (hc a rfl) h1 h63.out hbytes.out hbase
    obtain ⟨ao, c, rfl⟩ := owns_shape h2
    exact ⟨ao, c, w', hr, h2, h3, h5⟩

/-- append of what can be read to an own row, in a plain region. -/
theorem wpList_append_texts {ops : Array Oper} {rest : List Oper} {o : Oper} {a : Act} {w : World} {Q : Exit → Act → World → Prop} (hgd : o.guard = none) (s x : Operand)
    (ho : o.op = .call { callee := .builtin .append, args := #[s, x], argTypes := #[36, 36] })
    (base : Nat) (v : Value) (n : Nat) (l : List ByteArray) (hs : a.eval s = v) (hown : Ss w base v n l) (vb : Value) (m : Nat) (k : List ByteArray) (hm : m = k.length) (hx : a.eval x = vb) (hr : Reads w vb (sv k))
    (p : Nat) (hp : p = n + m) (h63 : Hid (p ≤ maxLen)) (hbytes : Hid (p * 16 ≤ 140737488355328)) (hbase : base ≤ w.heap.size)
    (h : ∀ ao c w', Ss w' base (.slice ao p c) p (l ++ k) → Below base w w' → wpList Tryz.prog ops Q rest (a.put o.dst (.slice ao p c)) w') : wpList Tryz.prog ops Q (o :: rest) a w := by
  subst hm hp
  obtain ⟨hn, hown⟩ := hown
  refine wpList_plain hgd fun K hK => ?_
  obtain ⟨ao, c, w', hr', h2, h3, _⟩ := run_append_strs o.type base v n (sv l) w hown vb (sv k) hr (sv_one k) (by rw [sv_length]; exact h63) (by rw [sv_length]; exact hbytes) hbase
  rw [sv_length] at hr' h2
  unfold Oper.wp execOp
  simp only [ho, resolve, invoke, builtin, Sem.run_bind, Sem.run_pure, Result.andThen_ok, List.map_toArray, List.map_cons, List.map_nil, hs, hx, hr']
  refine hK _ _ (h ao c w' ⟨by rw [hn, List.length_append], ?_⟩ (below_grown_own hown h3 hbase))
  simpa [sv] using h2

/-- make([]string, 0, n). -/
theorem wpList_make_texts {ops : Array Oper} {rest : List Oper} {o : Oper} {a : Act} {w : World} {Q : Exit → Act → World → Prop} (hgd : o.guard = none) (s x : Operand) (ho : o.op = Op.makeSlice 36 s x)
    (base n : Nat) (C : Int) (hl : a.eval s = .int .i64 0) (hc : a.eval x = .int .i64 C) (hC : C = (n : Int)) (h63 : Hid (n ≤ 4294967296)) (hbase : base ≤ w.heap.size)
    (h : ∀ w', Ss w' base (.slice (some ⟨w.heap.size, 0, none⟩) 0 n) 0 [] → Below base w w' → wpList Tryz.prog ops Q rest (a.put o.dst (.slice (some ⟨w.heap.size, 0, none⟩) 0 n)) w') : wpList Tryz.prog ops Q (o :: rest) a w := by
  obtain ⟨i0, hi, hz0, hz1, hz2⟩ := info_parts info_string
  have hm := h63.out
  exact wpList_make_own w hgd s x _ ho base 9 i0 _ 1 Tryz.underlying36 hi hz0 hz1 .i64 .i64 C n hl hc hC (by rw [hz2]; omega) (by unfold maxLen; omega) hbase fun w' hown hg => h w' ⟨rfl, hown⟩ (below_none hg hbase)

theorem text_shorter {b t r : List UInt8} (h : text? b = some (t, r)) : 4 + r.length ≤ b.length := by
  unfold text? at h
  split at h
  · cases h
  · next n q hq =>
    unfold num? at hq
    split at hq
    · next hl =>
      simp only [Option.some.injEq, Prod.mk.injEq] at hq
      split at h
      · simp only [Option.some.injEq, Prod.mk.injEq] at h
        rw [← h.2, ← hq.2]
        simp; omega
      · cases h
    · cases hq

theorem texts_need : ∀ (k : Nat) {b q : List UInt8} {L : List ByteArray}, texts? k b = some (L, q) → 4 * k ≤ b.length
  | 0, _, _, _, _ => by omega
  | k + 1, b, q, L, h => by
    rw [texts?] at h
    split at h
    · cases h
    · next t r ht =>
      have := text_shorter ht
      split at h
      · cases h
      · next M q' hq => have := texts_need k hq; omega

theorem Ss.empty (w : World) (base : Nat) (hb : base ≤ w.heap.size) : Ss (w.alloc (.cells #[] 9)) base (.slice (some ⟨w.heap.size, 0, none⟩) 0 0) 0 [] :=
  ⟨rfl, rfl, .inr ⟨w.heap.size, 0, #[], rfl, hb, heap_alloc_new w _, Nat.le_refl _, Nat.zero_le _, rfl, rfl⟩⟩

theorem Texts.reads {w : World} {v : Value} {n : Nat} {L : List ByteArray} (h : Texts w v n L) : Reads w v (sv L) := h.2.1

theorem Texts.later {w w' : World} {v : Value} {n : Nat} {L : List ByteArray} (h : Texts w v n L) (hg : Grow w w') : Texts w' v n L := ⟨h.1, h.2.1.later hg, h.2.2⟩

theorem wrap64_add_nat (a b : Nat) (h : a + b ≤ 9223372036854775807) : wrap64 ((a : Int) + (b : Int)) = ((a + b : Nat) : Int) := by rw [wrap64_id _ (by omega)]; omega

theorem wrap64_sub_nat (a b : Nat) (h : b ≤ a) (ha : a ≤ 9223372036854775807) : wrap64 ((a : Int) - (b : Int)) = ((a - b : Nat) : Int) := by rw [wrap64_id _ (by omega)]; omega

theorem text_split {l : List UInt8} {k : Nat} (h : k + 4 ≤ l.length) (q : Nat) (hq : numOf ((l.drop k).take 4) = q) :
    text? (l.drop k) = if q ≤ l.length - (k + 4) then some ((l.drop (k + 4)).take q, l.drop (k + 4 + q)) else none := by
  have hnum := num_drop h
  rw [hq, Int.toNat_natCast] at hnum
  unfold text?
  rw [hnum]
  simp only [List.length_drop, List.drop_drop]

theorem text_split_no {l : List UInt8} {k : Nat} (h : ¬ k + 4 ≤ l.length) : text? (l.drop k) = none := by
  unfold text?
  rw [num_drop_no h]

end Go.Proofs.YtlgfijjkbomejaaGreatDoor
