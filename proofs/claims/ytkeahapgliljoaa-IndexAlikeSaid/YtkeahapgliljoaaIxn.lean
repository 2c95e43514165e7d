/- An index that there is not; the contracts of the index. Numbers and types by name. -/
import Derived.Test.YtkeahapgliljoaaIxa
import Derived.Test.YtkeahapgliljoaaInn
namespace Go.Proofs.Ytkeahapgliljoaa
open Go.RowKit Go.Lib
set_option maxRecDepth 100000

theorem bucket_nil (k : ByteArray) (w : World) : Calls Try.prog 17 #[.pointer none, .string k] w fun e w' => ∃ g, e = .returned (.pointer (some ⟨g, 0, none⟩)) ∧ w.heap.size ≤ g ∧ Tbl w' g 1 [.slice none 0 0] ∧ Grow w w' := by
  have HT : Hid (Tbl (w.alloc (.cells #[.slice none 0 0] 54)) w.heap.size 1 [.slice none 0 0]) := Lib.hid ⟨rfl, .inr ⟨w.heap.size, 1, #[.slice none 0 0], rfl, Nat.zero_le _, heap_alloc_new w _, Nat.le_refl _, by decide, rfl, rfl⟩⟩
  have HB : Hid (Grow w (w.alloc (.cells #[.slice none 0 0] 54))) := Lib.hid (Below.alloc (Below.refl _ _) (Nat.le_refl _) _)
  go_enter Try.func17, Try.ntmps17
  go_wp2_with fail
  go_ret
  exact ⟨w.heap.size, rfl, Nat.le_refl _, HT.out, HB.out⟩

theorem grow_new {w w1 w2 : World} {g : Nat} {v : Value} (h1 : Grow w w1) (hg : w.heap.size ≤ g) (hv : v.ownBlock = none) (t : Turn (g :: v.ownBlock.toList) w1 w2) : Grow w w2 :=
  tg9 ((tb9 h1).trans' t fun q hq => .inr (by
    rw [hv] at hq
    have : q = g := by simpa using hq
    omega))
theorem ent_nil (w : World) : Ent w (.slice none 0 0) 0 [] := ⟨rfl, World.ownsRow_nil _ _ _ _⟩

theorem nil_put (k v : ByteArray) (w : World) : Calls Try.prog 10 #[.pointer none, .string k, .string v] w fun e w' => e = .returned (.tuple #[]) ∧ Grow w w' := by
  have B := bucket_nil k w
  go_enter Try.func10, Try.ntmps10
  go_wp2_with fail
  refine B.mono ?_
  rintro e w1 ⟨g, rfl, hg, hT, g1⟩
  have G := lput_any g 1 0 _ (.slice none 0 0) 0 [] k v w1 hT rfl (ent_nil w1) (by simp [Value.ownBlock]) (by decide)
  have H1 := Lib.hid (And.intro hg g1)
  clear hg hT g1 B
  go_wp2_with fail
  refine G.mono ?_
  rintro e w2 ⟨rfl, _, _, _, _, t2, _⟩
  have H2 := Lib.hid t2
  clear t2 G
  go_wp2_with fail
  go_end0
  exact ⟨rfl, grow_new H1.out.2 H1.out.1 rfl H2.out⟩

theorem nil_get (k : ByteArray) (w : World) : Calls Try.prog 12 #[.pointer none, .string k] w fun e w' => e = .returned (.tuple #[.string ⟨#[]⟩, .bool false]) ∧ Grow w w' := by
  have B := bucket_nil k w
  go_enter Try.func12, Try.ntmps12
  go_wp2_with fail
  refine B.mono ?_
  rintro e w1 ⟨g, rfl, hg, hT, g1⟩
  have G := lget_any ⟨g, 0, none⟩ (.slice none 0 0) 0 [] k w1 (hT.cell rfl) (ent_nil w1) (by decide)
  rw [show findP [] k = (⟨#[]⟩, false) from rfl] at G
  have H1 := Lib.hid (And.intro hg g1)
  clear hg hT g1 B
  go_wp2_with fail
  refine G.mono ?_
  rintro e w2 ⟨rfl, g2⟩
  have H2 := Lib.hid g2
  clear g2 G
  go_wp2_with fail
  go_ret2
  exact ⟨rfl, H1.out.2.trans H2.out⟩

theorem nil_del (k : ByteArray) (w : World) : Calls Try.prog 13 #[.pointer none, .string k] w fun e w' => e = .returned (.bool false) ∧ Grow w w' := by
  have B := bucket_nil k w
  go_enter Try.func13, Try.ntmps13
  go_wp2_with fail
  refine B.mono ?_
  rintro e w1 ⟨g, rfl, hg, hT, g1⟩
  have G := ldel_any g 1 0 _ (.slice none 0 0) 0 [] k w1 hT rfl (ent_nil w1) (by simp [Value.ownBlock]) (by decide)
  rw [show findP [] k = (⟨#[]⟩, false) from rfl] at G
  have H1 := Lib.hid (And.intro hg g1)
  clear hg hT g1 B
  go_wp2_with fail
  refine G.mono ?_
  rintro e w2 ⟨rfl, _, _, _, _, t2, _⟩
  have H2 := Lib.hid t2
  clear t2 G
  go_wp2_with fail
  go_ret
  exact ⟨rfl, grow_new H1.out.2 H1.out.1 rfl H2.out⟩

theorem nil_len (w : World) : Calls Try.prog 14 #[.pointer none] w fun e w' => e = .returned (.int .i64 0) ∧ Grow w w' := by
  go_enter Try.func14, Try.ntmps14
  go_wp2_with fail
  go_ret
  exact ⟨rfl, Grow.refl _⟩
theorem nil_all (w : World) : Calls Try.prog 16 #[.pointer none] w fun e w' => e = .returned (.slice none 0 0) ∧ Grow w w' := by
  go_enter Try.func16, Try.ntmps16
  go_wp2_with fail
  go_ret
  exact ⟨rfl, Grow.refl _⟩

/-- What the laws ask of an index that there is not. -/
theorem ix_none : IxN := ⟨nil_put, nil_get, nil_del, nil_len, nil_all⟩
/-- What the laws ask of the index. -/
theorem ix_kept : IxK CI where
  lt := fun h k hk => by
    obtain ⟨b, m, sl, Es, hX, _, rfl⟩ := h
    exact hX.lt k hk
  keep := fun h t hd => by
    obtain ⟨b, m, sl, Es, hX, hS, rfl⟩ := h
    exact ⟨b, m, sl, Es, hX.turn t hd, hS, rfl⟩
  new := ix_new
  put := fun h hf k v hk _ => ix_put h hf k v hk
  get := fun h hf k hk => ix_get h hf k hk
  del := fun h hf k hk => ix_del h hf k hk
  len := fun h hf => (ix_len h hf).mono fun _ _ ⟨e, hw⟩ => ⟨e, hw ▸ Turn.refl _ _⟩
  all := fun h hf => ix_all h hf

end Go.Proofs.Ytkeahapgliljoaa
