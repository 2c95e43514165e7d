/- The index's methods: New, Put, Get, Del. Numbers and types by name. -/
import Derived.Test.YtkeahapgliljoaaIxm
namespace Go.Proofs.Ytkeahapgliljoaa
open Go.RowKit Go.Lib
set_option maxRecDepth 100000

theorem IX.at {w : World} {x b m : Nat} {sl : List Value} {Es : List (List Prm)} {L : List Prm} (h : IX w x b m sl Es) (hs : Split m Es L) (k : ByteArray) : ∃ v E n, sl[bkt m k]? = some v ∧ Es[bkt m k]? = some E ∧ Ent w v n E := by
  obtain ⟨E, hE⟩ := hs.get h.pos k
  have hv : sl[bkt m k]? = some _ := List.getElem?_eq_getElem (by rw [h.slen]; exact bkt_lt h.pos k)
  obtain ⟨n, hn⟩ := h.ent _ _ E hv hE
  exact ⟨_, E, n, hv, hE, hn⟩

theorem ix_get {w : World} {x : Nat} {L : List Prm} {F : List Nat} (h : CI w x L F) (hf : Fine L) (k : ByteArray) (hk : k.size ≤ 200) :
    Calls Try.prog 12 #[theIx x, .string k] w fun e w' => e = .returned (.tuple #[.string (findP L k).1, .bool (findP L k).2]) ∧ Turn [] w w' := by
  obtain ⟨b, m, sl, Es, hX, hS, rfl⟩ := h
  have B := bucket_any x b m sl Es k w hX hk
  obtain ⟨v, E, n, hv, hE, hn⟩ := hX.at hS k
  have hfind := hS.find hE
  have hl := hS.short hX.pos hf.rise hE
  have hL := hf.len
  have HX := Lib.hid (And.intro hX (And.intro hv (And.intro hn (show n ≤ 1000000 by have := hn.1; omega))))
  rw [← hfind]
  clear hX hS hE hn hfind hl hf hv
  unfold theIx at B ⊢
  go_enter Try.func12, Try.ntmps12
  go_wp2_with fail
  refine B.mono ?_
  rintro e w1 ⟨rfl, g1⟩
  have t1 := tb9 g1
  have h1 := HX.out.1.turn t1 (by simp)
  have G := lget_any ⟨b, bkt m k, none⟩ v n E k w1 (h1.tbl.cell HX.out.2.1) (HX.out.2.2.1.turn t1 (by simp)) HX.out.2.2.2
  have H1 := Lib.hid t1
  clear h1 g1 t1 B
  go_wp2_with fail
  refine G.mono ?_
  rintro e w2 ⟨rfl, g2⟩
  go_wp2_with fail
  go_ret2
  exact ⟨rfl, H1.out.trans (tb9 g2)⟩

theorem ix_put {w : World} {x : Nat} {L : List Prm} {F : List Nat} (h : CI w x L F) (hf : Fine L) (k y : ByteArray) (hk : k.size ≤ 200) :
    Calls Try.prog 10 #[theIx x, .string k, .string y] w fun e w' => e = .returned (.tuple #[]) ∧ INext CI w w' x (putP ⟨k, y⟩ L) F := by
  obtain ⟨b, m, sl, Es, hX, hS, rfl⟩ := h
  have B := bucket_any x b m sl Es k w hX hk
  obtain ⟨v, E, n, hv, hE, hn⟩ := hX.at hS k
  have hl := hS.short hX.pos hf.rise hE
  have hL := hf.len
  have HX := Lib.hid (And.intro hX (And.intro hv (And.intro hn (And.intro (show n < 900000 by have := hn.1; omega) (hS.put hX.pos hE y)))))
  clear hX hS hE hn hl hf hv
  unfold theIx at B ⊢
  go_enter Try.func10, Try.ntmps10
  go_wp2_with fail
  refine B.mono ?_
  rintro e w1 ⟨rfl, g1⟩
  have t1 := tb9 g1
  have h1 := HX.out.1.turn t1 (by simp)
  have G := lput_any b m (bkt m k) sl v n E k y w1 h1.tbl HX.out.2.1 (HX.out.2.2.1.turn t1 (by simp)) (fun e => (HX.out.1.low _ v b HX.out.2.1 e).2.2 rfl) HX.out.2.2.2.1
  have H1 := Lib.hid (And.intro h1 t1)
  clear h1 g1 t1 B
  go_wp2_with fail
  refine G.mono ?_
  rintro e w2 ⟨rfl, hN⟩
  have HN := Lib.hid hN
  clear hN G
  go_wp2_with fail
  go_end0
  obtain ⟨sl', hX', hF', t2⟩ := H1.out.1.next HX.out.2.1 HN.out
  have hsz := H1.out.2.size
  refine ⟨rfl, _, ⟨b, m, sl', _, hX', HX.out.2.2.2.2, rfl⟩, fun q hq => ?_, (H1.out.2.mono (by simp)).trans t2⟩
  rcases hF' q hq with h | h
  · exact .inl h
  · exact .inr (by omega)

theorem ix_del {w : World} {x : Nat} {L : List Prm} {F : List Nat} (h : CI w x L F) (hf : Fine L) (k : ByteArray) (hk : k.size ≤ 200) :
    Calls Try.prog 13 #[theIx x, .string k] w fun e w' => e = .returned (.bool (findP L k).2) ∧ INext CI w w' x (delP L k) F := by
  obtain ⟨b, m, sl, Es, hX, hS, rfl⟩ := h
  have B := bucket_any x b m sl Es k w hX hk
  obtain ⟨v, E, n, hv, hE, hn⟩ := hX.at hS k
  have hfind := hS.find hE
  have hl := hS.short hX.pos hf.rise hE
  have hL := hf.len
  have HX := Lib.hid (And.intro hX (And.intro hv (And.intro hn (And.intro (show n < 900000 by have := hn.1; omega) (hS.del hX.pos hE)))))
  rw [← hfind]
  clear hX hS hE hn hl hf hv hfind
  unfold theIx at B ⊢
  go_enter Try.func13, Try.ntmps13
  go_wp2_with fail
  refine B.mono ?_
  rintro e w1 ⟨rfl, g1⟩
  have t1 := tb9 g1
  have h1 := HX.out.1.turn t1 (by simp)
  have G := ldel_any b m (bkt m k) sl v n E k w1 h1.tbl HX.out.2.1 (HX.out.2.2.1.turn t1 (by simp)) (fun e => (HX.out.1.low _ v b HX.out.2.1 e).2.2 rfl) HX.out.2.2.2.1
  have H1 := Lib.hid (And.intro h1 t1)
  clear h1 g1 t1 B
  go_wp2_with fail
  refine G.mono ?_
  rintro e w2 ⟨rfl, hN⟩
  have HN := Lib.hid hN
  clear hN G
  go_wp2_with fail
  go_ret
  obtain ⟨sl', hX', hF', t2⟩ := H1.out.1.next HX.out.2.1 HN.out
  have hsz := H1.out.2.size
  refine ⟨rfl, _, ⟨b, m, sl', _, hX', HX.out.2.2.2.2, rfl⟩, fun q hq => ?_, (H1.out.2.mono (by simp)).trans t2⟩
  rcases hF' q hq with h | h
  · exact .inl h
  · exact .inr (by omega)

end Go.Proofs.Ytkeahapgliljoaa
