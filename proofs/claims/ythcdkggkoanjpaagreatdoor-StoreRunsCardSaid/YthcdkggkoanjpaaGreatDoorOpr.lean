/- Lists of ops that are read. Numbers and types by name. -/
import Derived.Test.YthcdkggkoanjpaaGreatDoorMov
namespace Go.Proofs.YthcdkggkoanjpaaGreatDoor
open Go.RowKit Go.Lib
def sv (L : List ByteArray) : List Value := L.map Value.string
theorem sv_length (L : List ByteArray) : (sv L).length = L.length := by simp [sv]
theorem sv_one (L : List ByteArray) : ∀ u ∈ sv L, u.oneCell' = true := by
  intro u hu; simp only [sv, List.mem_map] at hu; obtain ⟨b, _, rfl⟩ := hu; rfl
def encs (L : List ByteArray) : List UInt8 := L.flatMap fun s => be4 s.size ++ s.data.toList
def enc (L : List ByteArray) : List UInt8 := be4 L.length ++ encs L
def bulk (L : List ByteArray) : Nat := (L.map fun s => 1 + s.size).sum
theorem encs_cons (s : ByteArray) (L : List ByteArray) : encs (s :: L) = be4 s.size ++ s.data.toList ++ encs L := by simp [encs]
theorem encs_append (L M : List ByteArray) : encs (L ++ M) = encs L ++ encs M := by simp [encs]
theorem bulk_cons (s : ByteArray) (L : List ByteArray) : bulk (s :: L) = 1 + s.size + bulk L := by simp [bulk]
theorem bulk_append (L M : List ByteArray) : bulk (L ++ M) = bulk L + bulk M := by simp [bulk]
theorem bulk_length (L : List ByteArray) : L.length ≤ bulk L := by
  induction L with
  | nil => simp
  | cons s L ih => rw [bulk_cons, List.length_cons]; omega
theorem bulk_mem {L : List ByteArray} {s : ByteArray} (h : s ∈ L) : 1 + s.size ≤ bulk L := by
  induction L with
  | nil => cases h
  | cons t L ih =>
    rw [bulk_cons]
    rcases List.mem_cons.1 h with rfl | h
    · omega
    · have := ih h; omega
theorem size_data (s : ByteArray) : s.data.toList.length = s.size := rfl
theorem encs_length (L : List ByteArray) : (encs L).length + L.length = 4 * L.length + bulk L := by
  induction L with
  | nil => rfl
  | cons s L ih => rw [encs_cons, bulk_cons]; simp only [List.length_append, be4_length, size_data, List.length_cons]; omega
theorem enc_length (L : List ByteArray) : (enc L).length + L.length = 4 + 4 * L.length + bulk L := by
  have := encs_length L
  simp only [enc, List.length_append, be4_length]; omega
def text? (b : List UInt8) : Option (List UInt8 × List UInt8) :=
  match num? b with
  | none => none
  | some (n, r) => if n ≤ r.length then some (r.take n, r.drop n) else none
def texts? : Nat → List UInt8 → Option (List ByteArray × List UInt8)
  | 0, b => some ([], b)
  | k + 1, b => match text? b with
    | none => none
    | some (t, r) => match texts? k r with
      | none => none
      | some (L, q) => some (⟨t.toArray⟩ :: L, q)
def list? (b : List UInt8) : Option (List ByteArray × List UInt8) :=
  match num? b with
  | none => none
  | some (n, r) => texts? n r
def dec (b : List UInt8) : Option (List ByteArray) :=
  match list? b with
  | some (L, []) => some L
  | _ => none
theorem text_enc (t : ByteArray) (ht : t.size < 4294967296) (s : List UInt8) : text? (be4 t.size ++ t.data.toList ++ s) = some (t.data.toList, s) := by
  unfold text?
  rw [List.append_assoc, num_be4 _ ht]
  simp only
  rw [if_pos (by simp), List.take_left' (size_data t), List.drop_left' (size_data t)]
theorem texts_enc : ∀ (L : List ByteArray) (s : List UInt8), (∀ t ∈ L, t.size < 4294967296) → texts? L.length (encs L ++ s) = some (L, s)
  | [], s, _ => rfl
  | t :: L, s, h => by
    rw [List.length_cons, texts?, encs_cons, List.append_assoc, text_enc t (h t (by simp))]
    simp only
    rw [texts_enc L s fun u hu => h u (by simp [hu])]
theorem list_enc (L : List ByteArray) (s : List UInt8) (hl : L.length < 4294967296) (h : ∀ t ∈ L, t.size < 4294967296) : list? (enc L ++ s) = some (L, s) := by
  unfold list? enc
  rw [List.append_assoc, num_be4 _ hl]
  exact texts_enc L s h
theorem list_enc_bulk (L : List ByteArray) (s : List UInt8) (h : bulk L ≤ 2000000) : list? (enc L ++ s) = some (L, s) :=
  list_enc L s (by have := bulk_length L; omega) fun t ht => by have := bulk_mem ht; omega
theorem dec_enc (L : List ByteArray) (h : bulk L ≤ 2000000) : dec (enc L) = some L := by
  have := list_enc_bulk L [] h
  rw [List.append_nil] at this
  unfold dec
  rw [this]
def Texts (w : World) (v : Value) (n : Nat) (L : List ByteArray) : Prop := n = L.length ∧ Reads w v (sv L) ∧ n ≤ maxLen ∧ ∀ s ∈ L, s.size ≤ maxLen
theorem Texts.shape {w : World} {v : Value} {n : Nat} {L : List ByteArray} (h : Texts w v n L) : ∃ ao c, v = .slice ao n c := by
  obtain ⟨rfl, ⟨ao, c, rfl, _⟩, _⟩ := h
  exact ⟨ao, c, by rw [sv_length]⟩
theorem Texts.at {w : World} {ao : Option Addr} {n c : Nat} {L : List ByteArray} (h : Texts w (.slice ao n c) n L) {k : Nat} (hk : k < n) : ∃ a s, ao = some a ∧ L[k]? = some s ∧ w.cell? (a.add k) = some (.string s) ∧ s.size ≤ maxLen := by
  obtain ⟨rfl, ⟨ao', c', e, _, hn, hc⟩, _, hs⟩ := h
  simp only [Value.slice.injEq] at e
  obtain ⟨rfl, _, _⟩ := e
  have hx : L[k]? = some L[k] := List.getElem?_eq_getElem hk
  cases ao with
  | none => have := (hn rfl).1; have : L = [] := by simpa [sv] using this
            subst this; simp at hk
  | some a => exact ⟨a, L[k], rfl, hx, hc a rfl k _ (by simp [sv, hx]), hs _ (List.getElem_mem _)⟩
theorem take_next {α : Type} {L : List α} {k : Nat} {s : α} (h : L[k]? = some s) : L.take (k + 1) = L.take k ++ [s] := by rw [List.take_add_one, h]; rfl
theorem Texts.below {w w' : World} {v : Value} {n : Nat} {L : List ByteArray} (h : Texts w v n L) (hb : Below w.heap.size w w') : Texts w' v n L := by
  refine ⟨h.1, ?_, h.2.2⟩
  obtain ⟨ao, cap, rfl, h0, h1, h2⟩ := h.2.1
  refine ⟨ao, cap, rfl, h0, h1, fun a ha j u hj => ?_⟩
  have hc := h2 a ha j u hj
  rw [World.cell?_of_block (hb.block _ (World.block_lt_of_cell? w _ hc))]
  exact hc
theorem encs_take {L : List ByteArray} {k : Nat} {s : ByteArray} (h : L[k]? = some s) : encs (L.take (k + 1)) = encs (L.take k) ++ be4 s.size ++ s.data.toList := by
  rw [take_next h, encs_append]; simp [encs]
theorem encs_take_le (L : List ByteArray) (k : Nat) : (encs (L.take k)).length ≤ (encs L).length := by
  have : encs L = encs (L.take k) ++ encs (L.drop k) := by rw [← encs_append, List.take_append_drop]
  rw [this, List.length_append]; omega
theorem Texts.lit (w : World) (L : List ByteArray) (fr : Nat × Nat) (n : Nat) (hn : n = L.length) (hn2 : n ≤ maxLen) (hs : ∀ s ∈ L, s.size ≤ maxLen) : Texts (w.alloc (.cells (sv L).toArray 9 fr)) (.slice (some ⟨w.heap.size, 0, none⟩) n n) n L :=
  ⟨hn, Reads.lit w (sv L) 9 fr n (by rw [sv_length]; exact hn), hn2, hs⟩
theorem info_string : (Tryz.prog.info? 9).map (fun i => (i.zero, i.size, i.bytes)) = some (some (.string ⟨#[]⟩), 1, 16) := by kernel_rfl
def Ss (w : World) (base : Nat) (v : Value) (n : Nat) (L : List ByteArray) : Prop := n = L.length ∧ w.ownsRow base 9 1 v n (sv L)
theorem Ss.alloc {w : World} {base : Nat} {v : Value} {n : Nat} {L : List ByteArray} (h : Ss w base v n L) (o : Obj) : Ss (w.alloc o) base v n L := ⟨h.1, h.2.alloc o⟩
theorem Ss.reads {w : World} {base : Nat} {v : Value} {n : Nat} {L : List ByteArray} (h : Ss w base v n L) : Reads w v (sv L) := by
  obtain ⟨rfl, h⟩ := h
  exact Reads.own (by simpa [sv_length] using h)
theorem Ss.texts {w : World} {base : Nat} {v : Value} {n : Nat} {L : List ByteArray} (h : Ss w base v n L) (hn : n ≤ maxLen) (hs : ∀ s ∈ L, s.size ≤ maxLen) : Texts w v n L := ⟨h.1, h.reads, hn, hs⟩
theorem run_append_strs (ty : TypeId) (base : Nat) (v : Value) (n : Nat) (xs : List Value) (w : World) (hown : w.ownsRow base 9 1 v n xs) (vb : Value) (news : List Value) (hr : Reads w vb news) (h1 : ∀ u ∈ news, u.oneCell' = true)
    (h63 : Hid (n + news.length ≤ maxLen)) (hbytes : Hid ((n + news.length) * 16 ≤ 140737488355328)) (hbase : base ≤ w.heap.size) :
    ∃ ao c w', (Builtin.append_ #[97, 97] ty #[v, vb]).run Tryz.prog w = .ok (.slice ao (n + news.length) c) w' ∧ w'.ownsRow base 9 1 (.slice ao (n + news.length) c) (n + news.length) (xs ++ news) ∧ w.grownBy w' v.ownBlock ∧
      ((Value.slice ao (n + news.length) c).ownBlock = v.ownBlock ∨ (Value.slice ao (n + news.length) c).ownBlock = some w.heap.size) := by
  obtain ⟨i0, hi, hz0, hz1, hz2⟩ := info_parts info_string
  obtain ⟨ao, cap, rfl, _, hn, hc⟩ := hr
  cases ao with
  | none =>
    obtain ⟨rfl, rfl⟩ := hn rfl
    obtain ⟨ao, c, rfl⟩ := owns_shape hown
    have := run_append_owned_none (P := Tryz.prog) w base 97 ty 9 i0 1 Tryz.underlying97 hi (.slice ao n c) n xs hown
    exact ⟨ao, c, w, this, by simpa using hown, grown_refl _ _, .inl rfl⟩
  | some a =>
    obtain ⟨v', w', hr, h2, h3, _, h5⟩ := run_append_own_at (P := Tryz.prog) w base 97 ty 9 i0 (.string ⟨#[]⟩) 1 16 Tryz.underlying97 hi hz0 hz1 hz2 rfl (by decide) v n xs hown a news.length cap news (by simp) (hc a rfl) h1 h63.out hbytes.out hbase
    obtain ⟨ao, c, rfl⟩ := owns_shape h2
    exact ⟨ao, c, w', hr, h2, h3, h5⟩
theorem wpList_append_texts {ops : Array Oper} {rest : List Oper} {o : Oper} {a : Act} {w : World} {Q : Exit → Act → World → Prop} (hgd : o.guard = none) (s x : Operand)
    (ho : o.op = .call { callee := .builtin .append, args := #[s, x], argTypes := #[97, 97] })
    (base : Nat) (v : Value) (n : Nat) (l : List ByteArray) (hs : a.eval s = v) (hown : Ss w base v n l) (vb : Value) (m : Nat) (k : List ByteArray) (hm : m = k.length) (hx : a.eval x = vb) (hr : Reads w vb (sv k))
    (p : Nat) (hp : p = n + m) (h63 : Hid (p ≤ maxLen)) (hbytes : Hid (p * 16 ≤ 140737488355328)) (hbase : base ≤ w.heap.size)
    (h : ∀ ao c w', Ss w' base (.slice ao p c) p (l ++ k) → Below base w w' → wpList Tryz.prog ops Q rest (a.put o.dst (.slice ao p c)) w') : wpList Tryz.prog ops Q (o :: rest) a w := by
  subst hm hp
  obtain ⟨hn, hown⟩ := hown
  refine wpList_plain hgd fun K hK => ?_
  obtain ⟨ao, c, w', hr', h2, h3, _⟩ := run_append_strs o.type base v n (sv l) w hown vb (sv k) hr (sv_one k) (by rw [sv_length]; exact h63) (by rw [sv_length]; exact hbytes) hbase
  rw [sv_length] at hr' h2
  unfold Oper.wp execOp
  simp only [ho, resolve, invoke, builtin, Sem.run_bind, Sem.run_pure, Result.andThen_ok, List.map_toArray, List.map_cons, List.map_nil, hs, hx, hr']
  refine hK _ _ (h ao c w' ⟨by rw [hn, List.length_append], ?_⟩ (below_grown_own hown h3 hbase))
  simpa [sv] using h2
theorem wpList_make_texts {ops : Array Oper} {rest : List Oper} {o : Oper} {a : Act} {w : World} {Q : Exit → Act → World → Prop} (hgd : o.guard = none) (s x : Operand) (ho : o.op = Op.makeSlice 97 s x)
    (base n : Nat) (C : Int) (hl : a.eval s = .int .i64 0) (hc : a.eval x = .int .i64 C) (hC : C = (n : Int)) (h63 : Hid (n ≤ 4294967296)) (hbase : base ≤ w.heap.size)
    (h : ∀ w', Ss w' base (.slice (some ⟨w.heap.size, 0, none⟩) 0 n) 0 [] → Below base w w' → wpList Tryz.prog ops Q rest (a.put o.dst (.slice (some ⟨w.heap.size, 0, none⟩) 0 n)) w') : wpList Tryz.prog ops Q (o :: rest) a w := by
  obtain ⟨i0, hi, hz0, hz1, hz2⟩ := info_parts info_string
  have hm := h63.out
  exact wpList_make_own w hgd s x _ ho base 9 i0 _ 1 Tryz.underlying97 hi hz0 hz1 .i64 .i64 C n hl hc hC (by rw [hz2]; omega) (by unfold maxLen; omega) hbase fun w' hown hg => h w' ⟨rfl, hown⟩ (below_none hg hbase)
theorem text_shorter {b t r : List UInt8} (h : text? b = some (t, r)) : 4 + r.length ≤ b.length := by
  unfold text? at h
  split at h
  · cases h
  · next n q hq =>
    unfold num? at hq
    split at hq
    · next hl =>
      simp only [Option.some.injEq, Prod.mk.injEq] at hq
      split at h
      · simp only [Option.some.injEq, Prod.mk.injEq] at h
        rw [← h.2, ← hq.2]
        simp; omega
      · cases h
    · cases hq
theorem texts_need : ∀ (k : Nat) {b q : List UInt8} {L : List ByteArray}, texts? k b = some (L, q) → 4 * k ≤ b.length
  | 0, _, _, _, _ => by omega
  | k + 1, b, q, L, h => by
    rw [texts?] at h
    split at h
    · cases h
    · next t r ht =>
      have := text_shorter ht
      split at h
      · cases h
      · next M q' hq => have := texts_need k hq; omega
theorem Texts.later {w w' : World} {v : Value} {n : Nat} {L : List ByteArray} (h : Texts w v n L) (hg : Grow w w') : Texts w' v n L := ⟨h.1, h.2.1.later hg, h.2.2⟩
theorem wrap64_add_nat (a b : Nat) (h : a + b ≤ 9223372036854775807) : wrap64 ((a : Int) + (b : Int)) = ((a + b : Nat) : Int) := by rw [wrap64_id _ (by omega)]; omega
theorem text_split {l : List UInt8} {k : Nat} (h : k + 4 ≤ l.length) (q : Nat) (hq : numOf ((l.drop k).take 4) = q) :
    text? (l.drop k) = if q ≤ l.length - (k + 4) then some ((l.drop (k + 4)).take q, l.drop (k + 4 + q)) else none := by
  have hnum := num_drop h
  rw [hq, Int.toNat_natCast] at hnum
  unfold text?
  rw [hnum]
  simp only [List.length_drop, List.drop_drop]
theorem text_split_no {l : List UInt8} {k : Nat} (h : ¬ k + 4 ≤ l.length) : text? (l.drop k) = none := by
  unfold text?
  rw [num_drop_no h]
end Go.Proofs.YthcdkggkoanjpaaGreatDoor
namespace Go.Proofs.YthcdkggkoanjpaaGreatDoor
open Go.RowKit Go.Lib
def Cells (w : World) (v : Value) (size n : Nat) (xs : List Value) : Prop :=
  ∃ ao cap, v = .slice ao n cap ∧ xs.length = n * size ∧ n ≤ cap ∧ (ao = none → n = 0 ∧ cap = 0) ∧ ∀ a, ao = some a → ∀ j u, xs[j]? = some u → w.cell? (a.add j) = some u
theorem Cells.later {w w' : World} {v : Value} {size n : Nat} {xs : List Value} (h : Cells w v size n xs) (hg : Grow w w') : Cells w' v size n xs := by
  obtain ⟨ao, cap, rfl, h0, h1, h2, h3⟩ := h
  refine ⟨ao, cap, rfl, h0, h1, h2, fun a ha j u hj => ?_⟩
  have hc := h3 a ha j u hj
  rw [World.cell?_of_block (hg.block _ (World.block_lt_of_cell? w _ hc))]
  exact hc
structure Elem (sl el : TypeId) (z : Value) (size bytes : Nat) : Prop where
  under : Tryz.prog.underlying sl = some (.slice el)
  info : (Tryz.prog.info? el).map (fun i => (i.zero, i.size, i.bytes)) = some (some z, size, bytes)
  cells : z.cells.size = size
  pos : 0 < size
theorem Cells.own {w : World} {base e size : Nat} {v : Value} {n : Nat} {xs : List Value} (h : w.ownsRow base e size v n xs) (hs : 0 < size) : Cells w v size n xs := by
  rcases h.2 with ⟨rfl, h0⟩ | ⟨g, cap, cur, rfl, _, hg, hc, _, hz, ht⟩
  · have hl := h.1
    subst h0
    exact ⟨none, 0, rfl, hl, Nat.le_refl _, fun _ => ⟨rfl, rfl⟩, fun a h => by cases h⟩
  · refine ⟨some ⟨g, 0, none⟩, cap, rfl, h.1, hc, (fun h => by cases h), fun a ha j u hj => ?_⟩
    cases ha
    have hlt : j < xs.length := (List.getElem?_eq_some_iff.1 hj).1
    have hx : xs[j]? = cur[j]? := by
      rw [← ht, List.getElem?_take, if_pos (by rw [h.1] at hlt; exact hlt)]
      simp
    show w.cell? ((⟨g, 0, none⟩ : Addr).add j) = some u
    rw [Addr.add_lit]
    simp only [World.cell?, hg, Nat.zero_add]
    rw [← hx, hj]
    simp
theorem Cells.lit (w : World) (xs : List Value) (t : TypeId) (fr : Nat × Nat) (size n : Nat) (hn : xs.length = n * size) : Cells (w.alloc (.cells xs.toArray t fr)) (.slice (some ⟨w.heap.size, 0, none⟩) n n) size n xs := by
  refine ⟨some ⟨w.heap.size, 0, none⟩, n, rfl, hn, Nat.le_refl _, (fun h => by cases h), fun a ha j u hj => ?_⟩
  cases ha
  rw [Addr.add_lit, World.cell?_alloc_mark]
  simpa using hj
theorem run_append_gen {sl el : TypeId} {z : Value} {size bytes : Nat} (E : Elem sl el z size bytes) (ty : TypeId) (base : Nat) (v : Value) (n : Nat) (xs : List Value) (w : World) (hown : w.ownsRow base el size v n xs) (vb : Value) (m : Nat) (news : List Value) (hr : Cells w vb size m news) (h1 : ∀ u ∈ news, u.oneCell' = true)
    (h63 : n + m ≤ maxLen) (hbytes : (n + m) * bytes ≤ 140737488355328) (hbase : base ≤ w.heap.size) :
    ∃ ao c w', (Builtin.append_ #[sl, sl] ty #[v, vb]).run Tryz.prog w = .ok (.slice ao (n + m) c) w' ∧ w'.ownsRow base el size (.slice ao (n + m) c) (n + m) (xs ++ news) ∧ w.grownBy w' v.ownBlock ∧
      ((Value.slice ao (n + m) c).ownBlock = v.ownBlock ∨ (Value.slice ao (n + m) c).ownBlock = some w.heap.size) := by
  obtain ⟨i0, hi, hz0, hz1, hz2⟩ := info_parts E.info
  obtain ⟨ao, cap, rfl, hl, _, hn, hc⟩ := hr
  have shape : ∀ {w : World} {v : Value} {n : Nat} {xs : List Value}, w.ownsRow base el size v n xs → ∃ ao c, v = .slice ao n c := by
    intro w v n xs h
    rcases h.2 with ⟨rfl, rfl⟩ | ⟨g, cap, cur, rfl, _⟩
    · exact ⟨none, 0, rfl⟩
    · exact ⟨_, _, rfl⟩
  cases ao with
  | none =>
    obtain ⟨rfl, rfl⟩ := hn rfl
    obtain rfl : news = [] := List.eq_nil_of_length_eq_zero (by simpa using hl)
    obtain ⟨ao, c, rfl⟩ := shape hown
    have := run_append_owned_none (P := Tryz.prog) w base sl ty el i0 size E.under hi (.slice ao n c) n xs hown
    exact ⟨ao, c, w, this, by simpa using hown, grown_refl _ _, .inl rfl⟩
  | some a =>
    obtain ⟨v', w', hr, h2, h3, _, h5⟩ := run_append_own_at (P := Tryz.prog) w base sl ty el i0 z size bytes E.under hi hz0 hz1 hz2 E.cells E.pos v n xs hown a m cap news hl (hc a rfl) h1 h63 hbytes hbase
    obtain ⟨ao, c, rfl⟩ := shape h2
    exact ⟨ao, c, w', hr, h2, h3, h5⟩
theorem wpList_append_gen {sl el : TypeId} {z : Value} {size bytes : Nat} (E : Elem sl el z size bytes) {ops : Array Oper} {rest : List Oper} {o : Oper} {a : Act} {w : World} {Q : Exit → Act → World → Prop} (hgd : o.guard = none) (s x : Operand)
    (ho : o.op = .call { callee := .builtin .append, args := #[s, x], argTypes := #[sl, sl] })
    (base : Nat) (v : Value) (n : Nat) (xs : List Value) (hs : a.eval s = v) (hown : w.ownsRow base el size v n xs) (vb : Value) (m : Nat) (news : List Value) (hx : a.eval x = vb) (hr : Cells w vb size m news) (h1 : ∀ u ∈ news, u.oneCell' = true)
    (p : Nat) (hp : p = n + m) (h63 : Hid (p ≤ 1000000)) (hby : bytes ≤ 1000) (hbase : base ≤ w.heap.size)
    (h : ∀ ao c w', w'.ownsRow base el size (.slice ao p c) p (xs ++ news) → Below base w w' → w.grownBy w' v.ownBlock → ((Value.slice ao p c).ownBlock = v.ownBlock ∨ (Value.slice ao p c).ownBlock = some w.heap.size) → wpList Tryz.prog ops Q rest (a.put o.dst (.slice ao p c)) w') : wpList Tryz.prog ops Q (o :: rest) a w := by
  subst hp
  have hb := h63.out
  refine wpList_plain hgd fun K hK => ?_
  obtain ⟨ao, c, w', hr', h2, h3, h4⟩ := run_append_gen E o.type base v n xs w hown vb m news hr h1 (by unfold maxLen; omega) (Nat.le_trans (Nat.mul_le_mul hb hby) (by decide)) hbase
  unfold Oper.wp execOp
  simp only [ho, resolve, invoke, builtin, Sem.run_bind, Sem.run_pure, Result.andThen_ok, List.map_toArray, List.map_cons, List.map_nil, hs, hx, hr']
  exact hK _ _ (h ao c w' h2 (below_grown_own hown h3 hbase) h3 h4)
theorem step_append_gen {sl el : TypeId} {z : Value} {size bytes : Nat} (E : Elem sl el z size bytes) {ops : Array Oper} {o : Oper} {a : Act} {w : World} {K : Act → World → Prop} {Q : Exit → Act → World → Prop} {F : Prop} (hgd : o.guard = none) (s x : Operand)
    (ho : o.op = .call { callee := .builtin .append, args := #[s, x], argTypes := #[sl, sl] })
    (base : Nat) (v : Value) (n : Nat) (xs : List Value) (hs : a.eval s = v) (hown : w.ownsRow base el size v n xs) (vb : Value) (m : Nat) (news : List Value) (hx : a.eval x = vb) (hr : Cells w vb size m news) (h1 : ∀ u ∈ news, u.oneCell' = true)
    (p : Nat) (hp : p = n + m) (h63 : Hid (p ≤ 1000000)) (hby : bytes ≤ 1000) (hbase : base ≤ w.heap.size)
    (h : ∀ ao c w', w'.ownsRow base el size (.slice ao p c) p (xs ++ news) → Below base w w' → w.grownBy w' v.ownBlock → ((Value.slice ao p c).ownBlock = v.ownBlock ∨ (Value.slice ao p c).ownBlock = some w.heap.size) → K (a.put o.dst (.slice ao p c)) w') :
    if Region.wanted o (yielded ops a.tmps) = true then Oper.wp Tryz.prog o a w K Q else F := by
  subst hp
  have hb := h63.out
  have hw : Region.wanted o (yielded ops a.tmps) = true := by simp [Region.wanted, hgd]
  rw [if_pos hw]
  obtain ⟨ao, c, w', hr', h2, h3, h4⟩ := run_append_gen E o.type base v n xs w hown vb m news hr h1 (by unfold maxLen; omega) (Nat.le_trans (Nat.mul_le_mul hb hby) (by decide)) hbase
  unfold Oper.wp execOp
  simp only [ho, resolve, invoke, builtin, Sem.run_bind, Sem.run_pure, Result.andThen_ok, List.map_toArray, List.map_cons, List.map_nil, hs, hx, hr']
  exact h ao c w' h2 (below_grown_own hown h3 hbase) h3 h4
end Go.Proofs.YthcdkggkoanjpaaGreatDoor
namespace Go.Proofs.YthcdkggkoanjpaaGreatDoor
open Go.RowKit Go.Lib
structure Opm where
  del : Bool
  key : ByteArray
  val : ByteArray
  deriving DecidableEq
def ov (o : Opm) : List Value := [.bool o.del, .string o.key, .string o.val]
def ovs (L : List Opm) : List Value := L.flatMap ov
theorem ovs_length (L : List Opm) : (ovs L).length = L.length * 3 := by
  induction L with
  | nil => rfl
  | cons o L ih => simp only [ovs, List.flatMap_cons, List.length_append, List.length_cons] at *; rw [ih]; simp [ov]; omega
theorem ovs_at {L : List Opm} {k : Nat} {o : Opm} (h : L[k]? = some o) (j : Nat) (hj : j < 3) : (ovs L)[k * 3 + j]? = (ov o)[j]? := by
  induction L generalizing k with
  | nil => cases h
  | cons p L ih =>
    have e : ovs (p :: L) = ov p ++ ovs L := by simp [ovs]
    cases k with
    | zero =>
      simp only [List.getElem?_cons_zero, Option.some.injEq] at h
      subst h
      rw [e, Nat.zero_mul, Nat.zero_add, List.getElem?_append_left (by simp [ov]; omega)]
    | succ k =>
      rw [List.getElem?_cons_succ] at h
      rw [e, List.getElem?_append_right (by simp [ov]; omega), ← ih h]
      congr 1
      simp [ov]; omega
def Opr (w : World) (v : Value) (n : Nat) (L : List Opm) : Prop := n = L.length ∧ n ≤ maxLen ∧ Cells w v 3 n (ovs L) ∧ ∀ o ∈ L, o.key.size ≤ maxLen ∧ o.val.size ≤ maxLen
theorem Opr.shape {w : World} {v : Value} {n : Nat} {L : List Opm} (h : Opr w v n L) : ∃ ao c, v = .slice ao n c := by
  obtain ⟨_, _, ⟨ao, c, rfl, _⟩, _⟩ := h
  exact ⟨ao, c, rfl⟩
theorem Opr.later {w w' : World} {v : Value} {n : Nat} {L : List Opm} (h : Opr w v n L) (hg : Grow w w') : Opr w' v n L := ⟨h.1, h.2.1, h.2.2.1.later hg, h.2.2.2⟩
theorem Opr.nil (w : World) : Opr w (.slice none 0 0) 0 [] := ⟨rfl, Nat.zero_le _, ⟨none, 0, rfl, rfl, Nat.le_refl _, fun _ => ⟨rfl, rfl⟩, fun a h => by cases h⟩, fun o h => by cases h⟩
theorem Opr.at {w : World} {ao : Option Addr} {n c : Nat} {L : List Opm} (h : Opr w (.slice ao n c) n L) {k : Nat} (hk : k < n) :
    ∃ a o, ao = some a ∧ L[k]? = some o ∧ w.cell? (a.add (k * 3)) = some (.bool o.del) ∧ w.cell? ⟨(a.add (k * 3)).block, (a.add (k * 3)).off + 1, none⟩ = some (.string o.key) ∧ w.cell? ⟨(a.add (k * 3)).block, (a.add (k * 3)).off + 2, none⟩ = some (.string o.val) ∧ o.key.size ≤ maxLen ∧ o.val.size ≤ maxLen := by
  obtain ⟨h1, h2, ⟨ao', c', e, h0, hnc, hn, hc⟩, hs⟩ := h
  simp only [Value.slice.injEq] at e
  obtain ⟨rfl, _, rfl⟩ := e
  have hx : L[k]? = some (L[k]'(by omega)) := List.getElem?_eq_getElem (by omega)
  generalize L[k]'(by omega) = o at hx
  cases ao with
  | none => have := (hn rfl).1; omega
  | some a =>
    have hm := hs o (List.mem_of_getElem? hx)
    refine ⟨a, o, rfl, hx, ?_, ?_, ?_, hm.1, hm.2⟩
    · exact hc a rfl (k * 3) _ (by have := ovs_at hx 0 (by omega); rw [Nat.add_zero] at this; rw [this]; rfl)
    · have := hc a rfl _ _ (show (ovs L)[k * 3 + 1]? = some (.string o.key) by rw [ovs_at hx 1 (by omega)]; rfl)
      rw [← Addr.add_add] at this
      exact this
    · have := hc a rfl _ _ (show (ovs L)[k * 3 + 2]? = some (.string o.val) by rw [ovs_at hx 2 (by omega)]; rfl)
      rw [← Addr.add_add] at this
      exact this
def okOp (o : Opm) : Bool := !(o.del && !o.val.toList.isEmpty)
def okOps (L : List Opm) : Bool := L.all okOp && decide (L.length ≤ 1000)
def bulkO (L : List Opm) : Nat := (L.map fun o => 1 + o.key.size + o.val.size).sum
theorem bulkO_cons (o : Opm) (L : List Opm) : bulkO (o :: L) = 1 + o.key.size + o.val.size + bulkO L := by simp [bulkO]
theorem bulkO_append (L M : List Opm) : bulkO (L ++ M) = bulkO L + bulkO M := by simp [bulkO]
theorem bulkO_length (L : List Opm) : L.length ≤ bulkO L := by
  induction L with
  | nil => simp
  | cons o L ih => rw [bulkO_cons, List.length_cons]; omega
theorem bulkO_mem {L : List Opm} {o : Opm} (h : o ∈ L) : 1 + o.key.size + o.val.size ≤ bulkO L := by
  induction L with
  | nil => cases h
  | cons p L ih =>
    rw [bulkO_cons]
    rcases List.mem_cons.1 h with rfl | h
    · omega
    · have := ih h; omega
def GreatO (L : List Opm) (w : World) (e : Ending) (w' : World) : Prop := ∃ b q, e = .returned (.bool b) ∧ w' = w.drewN q ∧ (b = false → bulkO L ≤ 5000)
theorem great_ops (v : Value) (n : Nat) (L : List Opm) (w : World) (hr : Opr w v n L) :
    Calls Tryz.prog 30 #[v] w (GreatO L w) := by
  obtain ⟨ao, c, rfl⟩ := hr.shape
  have HR := Lib.hid hr
  have hm := hr.2.1
  unfold maxLen at hm
  clear hr
  go_enter Tryz.func30, Tryz.ntmps30
  go_wp2_with fail
  go_loopw [3, 4] (fun nv i wr => ∃ k m q : Nat, k ≤ n ∧ i = .int .i64 k ∧ nv = .int .i64 m ∧ m ≤ 15003 ∧ Hid (m ≤ 5000 → bulkO (L.take k) = m) ∧ wr = w.drewN q)
    (fun nv _ _ => 15004 - (intOf nv).toNat)
  case atStart => exact ⟨0, 0, 0, Nat.zero_le _, rfl, rfl, by omega, Lib.hid (fun _ => rfl), rfl⟩
  case round =>
    obtain ⟨k, m, q, hk, rfl, rfl, hmm, hb, hw⟩ := hrel
    by_cases h1 : k < n
    · have h3 : (k : Int) < (n : Int) := by omega
      by_cases h2 : m ≤ 5000
      · have h4 : (m : Int) ≤ 5000 := by omega
        have HR' : Opr wr (.slice ao n c) n L := by rw [hw]; exact HR.out
        obtain ⟨a, o, rfl, ho, c0, c1, c2, s1, s2⟩ := HR'.at h1
        have HS := Lib.hid (And.intro ho hw)
        unfold maxLen at s1 s2
        have hb2 := hb.out h2
        have d1 : ∀ j, (wr.drewN j).cell? ⟨(a.add (k * 3)).block, (a.add (k * 3)).off + 1, none⟩ = some (.string o.key) := fun _ => c1
        have d2 : ∀ j, (wr.drewN j).cell? ⟨(a.add (k * 3)).block, (a.add (k * 3)).off + 2, none⟩ = some (.string o.val) := fun _ => c2
        clear ho hw c0 c1 c2 HR'
        go_wp2_with fail
        go_quiet (fail)
        go_wp2
        have hb3 : bulkO (L.take (k + 1)) = m + (1 + o.key.size + o.val.size) := by rw [take_next HS.out.1, bulkO_append, hb2]; simp [bulkO]
        refine ⟨⟨k + 1, m + 1 + min o.key.size 5001 + min o.val.size 5001, q + nq, by omega, by simp, ?_, by omega, Lib.hid (fun h => by omega), by rw [HS.out.2, World.drewN_drewN]⟩, ?_⟩
        · congr 1; omega
        · simp only [intOf]; omega
      · have h4 : ¬ (m : Int) ≤ 5000 := by omega
        have h5 : (5000 : Int) < (m : Int) := by omega
        have HW := Lib.hid hw
        clear hw
        go_wp2_with fail
        go_ret
        exact ⟨true, q, rfl, HW.out, by intro h; cases h⟩
    · have h3 : ¬ (k : Int) < (n : Int) := by omega
      have HW := Lib.hid hw
      clear hw
      go_wp2_with fail
      go_ret
      refine ⟨_, q, rfl, HW.out, fun h => ?_⟩
      have h5 : ¬ (5000 : Int) < (m : Int) := of_decide_eq_false h
      have h6 := hb.out (by omega)
      have h7 : k = L.length := by have := HR.out.1; omega
      rw [h7, List.take_length] at h6
      omega
theorem text_inj' {s t : ByteArray} (h : s.toList = t.toList) : s = t := by
  rw [ByteArray.toList_eq, ByteArray.toList_eq] at h
  exact Go.WideShapes.bytes_inj (by simpa using h)
end Go.Proofs.YthcdkggkoanjpaaGreatDoor
