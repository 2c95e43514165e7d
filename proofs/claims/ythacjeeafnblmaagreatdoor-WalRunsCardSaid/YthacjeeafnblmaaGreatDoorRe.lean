/- The reference's row of files: a file out of it. Numbers and types by name. -/
import Derived.Test.YthacjeeafnblmaaGreatDoorCr
import Derived.Test.YthacjeeafnblmaaGreatDoorBel
import Derived.Test.YthacjeeafnblmaaGreatDoorOo
/- The reference's disk in memory; gate, told, at. Numbers and types by name. -/
namespace Go.Proofs.YthacjeeafnblmaaGreatDoor
open Go.RowKit Go.Maps Go.Sort Go.WideMaps

structure RS where
  cap : Int
  fl : Value
  cr : Int
  dn : Bool
  kp : Value
  fv : Value
  n : Int
  dw : Bool

def RS.cells (s : RS) : Array Value := #[.int .i64 s.cap, s.fl, .int .i64 s.cr, .bool s.dn, s.kp, s.fv, .int .i64 s.n, .bool s.dw]
def RefC (w : World) (r : Nat) (s : RS) : Prop := w.heap[r]? = some (.cells s.cells 74 (0, 0))

theorem RefC.c0 {w : World} {r : Nat} {s : RS} (h : RefC w r s) : w.cell? ⟨r, 0, none⟩ = some (.int .i64 s.cap) := cells_of h 0 _ rfl
theorem RefC.c1 {w : World} {r : Nat} {s : RS} (h : RefC w r s) : w.cell? ⟨r, 1, none⟩ = some s.fl := cells_of h 1 _ rfl
theorem RefC.c2 {w : World} {r : Nat} {s : RS} (h : RefC w r s) : w.cell? ⟨r, 2, none⟩ = some (.int .i64 s.cr) := cells_of h 2 _ rfl
theorem RefC.c3 {w : World} {r : Nat} {s : RS} (h : RefC w r s) : w.cell? ⟨r, 3, none⟩ = some (.bool s.dn) := cells_of h 3 _ rfl
theorem RefC.c4 {w : World} {r : Nat} {s : RS} (h : RefC w r s) : w.cell? ⟨r, 4, none⟩ = some s.kp := cells_of h 4 _ rfl
theorem RefC.c5 {w : World} {r : Nat} {s : RS} (h : RefC w r s) : w.cell? ⟨r, 5, none⟩ = some s.fv := cells_of h 5 _ rfl
theorem RefC.c6 {w : World} {r : Nat} {s : RS} (h : RefC w r s) : w.cell? ⟨r, 6, none⟩ = some (.int .i64 s.n) := cells_of h 6 _ rfl
theorem RefC.c7 {w : World} {r : Nat} {s : RS} (h : RefC w r s) : w.cell? ⟨r, 7, none⟩ = some (.bool s.dw) := cells_of h 7 _ rfl
theorem RefC.free {w : World} {r : Nat} {s : RS} (h : RefC w r s) (j : Nat) : w.frozen? ⟨r, j, none⟩ = false := free_of h j
theorem RefC.lt {w : World} {r : Nat} {s : RS} (h : RefC w r s) : r < w.heap.size := lt_of h
theorem RefC.turn {F : List Nat} {w w' : World} {r : Nat} {s : RS} (h : RefC w r s) (t : Turn F w w') (hb : r ∉ F) : RefC w' r s := t.heap h hb
theorem RefC.set5 {w : World} {r : Nat} {s : RS} (h : RefC w r s) (x : Value) : RefC (w.setCell ⟨r, 5, none⟩ x) r { s with fv := x } := by
  have := heap_set h 5 x
  simpa [RefC, RS.cells] using this
theorem RefC.set6 {w : World} {r : Nat} {s : RS} (h : RefC w r s) (x : Int) : RefC (w.setCell ⟨r, 6, none⟩ (.int .i64 x)) r { s with n := x } := by
  have := heap_set h 6 (.int .i64 x)
  simpa [RefC, RS.cells] using this
theorem RefC.set7 {w : World} {r : Nat} {s : RS} (h : RefC w r s) (x : Bool) : RefC (w.setCell ⟨r, 7, none⟩ (.bool x)) r { s with dw := x } := by
  have := heap_set h 7 (.bool x)
  simpa [RefC, RS.cells] using this

/-- What stands in the reference's row of files; G: the blocks of the files' bytes. -/
def TellR (w : World) (G : List Nat) (xs : List Value) (fs : List Ent) : Prop :=
  xs.length = fs.length * 3 ∧ ∀ j x, fs[j]? = some x → ∃ ao c, xs[j * 3]? = some (encStr x.1) ∧ xs[j * 3 + 1]? = some (.slice ao x.2.1.length c) ∧ xs[j * 3 + 2]? = some (.int .i64 (x.2.2 : Nat)) ∧
    Reads w (.slice ao x.2.1.length c) (bv x.2.1) ∧ (x.2.1 ≠ [] → ∀ a, ao = some a → a.block ∈ G)

theorem TellR.turn {w w' : World} {G F : List Nat} {xs : List Value} {fs : List Ent} (h : TellR w G xs fs) (t : Turn F w w') (hd : ∀ k ∈ G, k ∉ F) : TellR w' G xs fs := by
  refine ⟨h.1, fun j x hj => ?_⟩
  obtain ⟨ao, c, e1, e2, e3, h4, h5⟩ := h.2 j x hj
  refine ⟨ao, c, e1, e2, e3, h4.turn t fun hne a n c' e => ?_, h5⟩
  simp only [Value.slice.injEq] at e
  exact hd _ (h5 (by intro e2; rw [e2] at hne; exact hne rfl) a e.1)
theorem TellR.more {w : World} {G G' : List Nat} {xs : List Value} {fs : List Ent} (h : TellR w G xs fs) (hG : ∀ k ∈ G, k ∈ G') : TellR w G' xs fs :=
  ⟨h.1, fun j x hj => by obtain ⟨ao, c, e1, e2, e3, h4, h5⟩ := h.2 j x hj; exact ⟨ao, c, e1, e2, e3, h4, fun hne a e => hG _ (h5 hne a e)⟩⟩

structure RP (w : World) (s : RS) (M : MD) (G : List Nat) : Prop where
  cap : s.cap = M.cap
  cr : s.cr = M.cr
  dn : s.dn = M.dn
  n : s.n = M.n
  dw : s.dw = M.dw
  fail : Reads w s.fl (iv M.fail)
  keep : Reads w s.kp (iv M.keep)
  failG : M.fail ≠ [] → ∀ a n c, s.fl = .slice (some a) n c → a.block ∈ G
  keepG : M.keep ≠ [] → ∀ a n c, s.kp = .slice (some a) n c → a.block ∈ G
  n0 : 0 ≤ M.n

theorem RP.turn {w w' : World} {s : RS} {M : MD} {F G : List Nat} (h : RP w s M G) (t : Turn F w w') (hd : ∀ k ∈ G, k ∉ F) : RP w' s M G :=
  ⟨h.cap, h.cr, h.dn, h.n, h.dw, h.fail.turn t fun hne a n c e => hd _ (h.failG (by rintro e2; rw [e2] at hne; exact hne rfl) a n c e), h.keep.turn t fun hne a n c e => hd _ (h.keepG (by rintro e2; rw [e2] at hne; exact hne rfl) a n c e), h.failG, h.keepG, h.n0⟩

/-- The reference's disk at r is M; F: the blocks that it writes; G: those that it reads alone. -/
def RD (w : World) (r : Nat) (M : MD) (F G : List Nat) : Prop :=
  Fit M.fs ∧ ∃ s ao c xs, RefC w r s ∧ RP w s M G ∧ s.fv = .slice ao M.fs.length c ∧ w.ownsRow 0 92 3 (.slice ao M.fs.length c) M.fs.length xs ∧ TellR w G xs M.fs ∧
    F = r :: (Value.slice ao M.fs.length c).ownBlock.toList ∧ (Value.slice ao M.fs.length c).ownBlock ≠ some r ∧ (∀ k ∈ G, k ∉ F ∧ k < w.heap.size)

theorem RD.lt {w : World} {r : Nat} {M : MD} {F G : List Nat} (h : RD w r M F G) : (∀ k ∈ F, k < w.heap.size) ∧ ∀ k ∈ G, k ∉ F ∧ k < w.heap.size := by
  obtain ⟨_, s, ao, c, xs, hR, _, _, hown, _, rfl, _, hG⟩ := h
  refine ⟨fun k hk => ?_, hG⟩
  simp only [List.mem_cons, Option.mem_toList] at hk
  rcases hk with rfl | hk
  · exact hR.lt
  · exact (hown.lt k hk).2
theorem RD.own {w : World} {r : Nat} {M : MD} {F G : List Nat} (h : RD w r M F G) : r ∈ F := by
  obtain ⟨_, s, ao, c, xs, hR, _, _, hown, _, rfl, _, hG⟩ := h
  simp
theorem RD.keep {w w' : World} {r : Nat} {M : MD} {F G H : List Nat} (h : RD w r M F G) (t : Turn H w w') (hF : ∀ k ∈ F, k ∉ H) (hG : ∀ k ∈ G, k ∉ H) : RD w' r M F G := by
  obtain ⟨hf, s, ao, c, xs, hR, hP, hv, hown, hT, rfl, hne, hGd⟩ := h
  exact ⟨hf, s, ao, c, xs, hR.turn t (hF r (by simp)), hP.turn t hG, hv, owns_turn hown t (fun g hg => hF g (by simp [hg])), hT.turn t hG, rfl, hne, fun k hk => ⟨(hGd k hk).1, Nat.lt_of_lt_of_le (hGd k hk).2 t.size⟩⟩
theorem RD.new {w w' : World} {r : Nat} {M : MD} {F G : List Nat} (h : RD w r M F G) (t : Turn [] w w') : RD w' r M F G := h.keep t (by simp) (by simp)

def RNext (w w' : World) (r : Nat) (M' : MD) (F G P : List Nat) : Prop :=
  ∃ F' G', RD w' r M' F' G' ∧ (∀ k ∈ F', k ∈ F ∨ w.heap.size ≤ k) ∧ (∀ k ∈ G', k ∈ G ∨ k ∈ P ∨ w.heap.size ≤ k) ∧ Turn F w w'

theorem RD.next {w w' : World} {r : Nat} {M : MD} {F G : List Nat} (h : RD w' r M F G) (t : Turn F w w') : RNext w w' r M F G [] :=
  ⟨F, G, h, fun k hk => .inl hk, fun k hk => .inl hk, t⟩
theorem RNext.after {w w1 w' : World} {r : Nat} {M' : MD} {F G P : List Nat} (t : Turn F w w1) (h : RNext w1 w' r M' F G P) : RNext w w' r M' F G P := by
  obtain ⟨F', G', h1, h2, h3, h4⟩ := h
  exact ⟨F', G', h1, fun k hk => (h2 k hk).imp id (fun h => Nat.le_trans t.size h), fun k hk => (h3 k hk).imp id (fun h => h.imp id fun h => Nat.le_trans t.size h), t.trans h4⟩
theorem RNext.then {w w1 w' : World} {r : Nat} {M1 M' : MD} {F G : List Nat} {P : List Nat} (h : RNext w w1 r M1 F G []) (k : ∀ F1 G1, RD w1 r M1 F1 G1 → RNext w1 w' r M' F1 G1 P) : RNext w w' r M' F G P := by
  obtain ⟨F1, G1, h1, h2, h3, h4⟩ := h
  obtain ⟨F', G', k1, k2, k3, k4⟩ := k F1 G1 h1
  refine ⟨F', G', k1, fun x hx => ?_, fun x hx => ?_, h4.trans' k4 h2⟩
  · rcases k2 x hx with e | e
    · exact h2 x e
    · exact .inr (Nat.le_trans h4.size e)
  · rcases k3 x hx with e | e | e
    · exact (h3 x e).imp id (fun e => .inr (e.elim (fun e => by cases e) id))
    · exact .inr (.inl e)
    · exact .inr (.inr (Nat.le_trans h4.size e))

def theRef (r : Nat) : Value := .pointer (some ⟨r, 0, none⟩)

/-- What is told behind a crash. -/
def tell7 (M : MD) (x : Int) : Int := if M.dw = true then 7 else x

theorem ref_told (r : Nat) (M : MD) (F G : List Nat) (x : Int) (w : World) (h : RD w r M F G) :
    Calls Tryz.prog 70 #[theRef r, .int .i64 x] w fun e w' => e = .returned (.int .i64 (tell7 M x)) ∧ w = w' := by
  unfold tell7
  obtain ⟨hf, s, ao, c, xs, hR, hP, hv, hown, hT, rfl, hne, hGd⟩ := h
  have c7 := hR.c7
  rw [hP.dw] at c7
  clear hR hP hv hown hT hne hGd
  unfold theRef
  by_cases hd : M.dw = true
  · rw [if_pos hd]
    rw [hd] at c7
    go_enter Tryz.func70, Tryz.ntmps70
    go_wp2
    go_ret
    exact ⟨rfl, rfl⟩
  · rw [if_neg hd]
    rw [Bool.not_eq_true] at hd
    rw [hd] at c7
    go_enter Tryz.func70, Tryz.ntmps70
    go_wp2
    go_ret
    exact ⟨rfl, rfl⟩

/-- The place of a file, or -1. -/
def placeE (k : List UInt8) (fs : List Ent) : Int := match fs.findIdx? (isName k) with
  | none => -1
  | some i => i

theorem row_cell {w : World} {base e : Nat} {ao : Option Addr} {n c : Nat} {xs : List Value} (h : w.ownsRow base e 3 (.slice ao n c) n xs) (hx : xs.length = n * 3) {j : Nat} {v : Value} (hj : xs[j]? = some v) :
    ∃ g, ao = some ⟨g, 0, none⟩ ∧ w.cell? ⟨g, j, none⟩ = some v ∧ w.frozen? ⟨g, j, none⟩ = false := by
  have hlt := (List.getElem?_eq_some_iff.1 hj).1
  rcases h.2 with ⟨hv, h0⟩ | ⟨g, cap, cur, hv, _, hg, hc, _, hs, ht⟩
  · subst h0; simp at hx; rw [hx] at hlt; simp at hlt
  · simp only [Value.slice.injEq] at hv
    obtain ⟨rfl, _, rfl⟩ := hv
    refine ⟨g, rfl, ?_, by simp [World.frozen?, hg]⟩
    simp only [World.cell?, hg]
    rw [← ht, List.getElem?_take] at hj
    split at hj
    · simpa using hj
    · cases hj

set_option maxHeartbeats 1000000 in
theorem ref_at (r : Nat) (M : MD) (F G : List Nat) (name : ByteArray) (w : World) (h : RD w r M F G) (hl : M.fs.length < 900000) :
    Calls Tryz.prog 68 #[theRef r, .string name] w fun e w' => e = .returned (.int .i64 (placeE name.data.toList M.fs)) ∧ w = w' := by
  obtain ⟨hf, s, ao, c, xs, hR, hP, hv, hown, hT, rfl, hne, hGd⟩ := h
  have c5 := hR.c5
  rw [hv] at c5
  have HO := Lib.hid (And.intro hown hT)
  clear hR hP hv hown hT hne hGd
  unfold theRef
  obtain ⟨n, hn⟩ : ∃ n, n = M.fs.length := ⟨_, rfl⟩
  rw [← hn] at c5 hl HO
  have HN := Lib.hid hn
  clear hn
  go_enter Tryz.func68, Tryz.ntmps68
  go_wp2
  go_loopw [5] (fun i wr => ∃ k : Nat, k ≤ n ∧ i = .int .i64 k ∧ Hid (∀ j, j < k → ∀ x, M.fs[j]? = some x → isName name.data.toList x = false) ∧ w = wr)
    (fun i _ => n - (intOf i).toNat)
  case atStart => exact ⟨0, Nat.zero_le _, rfl, Lib.hid (fun j hj => by omega), rfl⟩
  case round =>
    obtain ⟨k, hk, rfl, hno, rfl⟩ := hrel
    by_cases h1 : k < n
    · have h3 : (k : Int) < (n : Int) := by omega
      obtain ⟨x, hx⟩ : ∃ x, M.fs[k]? = some x := ⟨_, List.getElem?_eq_getElem (by have := HN.out; omega)⟩
      obtain ⟨_, _, e1, _⟩ := HO.out.2.2 k x hx
      obtain ⟨g, rfl, hc, _⟩ := row_cell HO.out.1 (by rw [HO.out.2.1, HN.out]) e1
      unfold encStr at hc
      by_cases hnm : isName name.data.toList x = true
      · have hb : (x.1 == name.toList) = true := by
          rw [ByteArray.toList_eq]; simpa using isName_iff.1 hnm
        have HX := Lib.hid (And.intro hx hnm)
        clear hx hnm e1
        go_wp2_with fail
        go_ret
        refine ⟨?_, rfl⟩
        unfold placeE
        have e : M.fs.findIdx? (isName name.data.toList) = some k := by
          rw [List.findIdx?_eq_some_iff_getElem]
          have hlt : k < M.fs.length := (List.getElem?_eq_some_iff.1 HX.out.1).1
          have hxe : M.fs[k] = x := (List.getElem?_eq_some_iff.1 HX.out.1).2
          refine ⟨hlt, by rw [hxe]; exact HX.out.2, fun j hj => ?_⟩
          have := hno.out j hj _ (List.getElem?_eq_getElem (by omega))
          simp [this]
        rw [e]
        rfl
      · rw [Bool.not_eq_true] at hnm
        have hb : (x.1 == name.toList) = false := by
          rw [ByteArray.toList_eq]
          have : x.1 ≠ name.data.toList := fun e => by rw [isName_iff.2 e] at hnm; cases hnm
          simpa using this
        have HX := Lib.hid (And.intro hx hnm)
        clear hx hnm e1
        go_wp2_with fail
        refine ⟨⟨k + 1, by omega, by simp, Lib.hid (fun j hj y hy => ?_), trivial⟩, by simp [intOf]; omega⟩
        by_cases hjk : j < k
        · exact hno.out j hjk y hy
        · obtain rfl : j = k := by omega
          rw [HX.out.1] at hy
          cases hy
          exact HX.out.2
    · have h3 : ¬ (k : Int) < (n : Int) := by omega
      obtain rfl : k = n := by omega
      go_wp2_with fail
      go_ret
      refine ⟨?_, rfl⟩
      unfold placeE
      have e : M.fs.findIdx? (isName name.data.toList) = none := by
        rw [List.findIdx?_eq_none_iff]
        intro x hx
        obtain ⟨j, hj, rfl⟩ := List.getElem_of_mem hx
        exact hno.out j (by have := HN.out; omega) _ (List.getElem?_eq_getElem hj)
      rw [e]
      rfl

end Go.Proofs.YthacjeeafnblmaaGreatDoor

/- The reference's gate. Numbers and types by name. -/
namespace Go.Proofs.YthacjeeafnblmaaGreatDoor
open Go.RowKit Go.Maps Go.Sort Go.WideMaps

def MD.gate (M : MD) : Bool × Int × MD :=
  if M.dw = true then (false, 7, M)
  else if M.n + 1 = M.cr then (M.dn, 7, { M with n := M.n + 1, dw := true })
  else if M.fail.contains (M.n + 1) = true then (false, 6, { M with n := M.n + 1 })
  else (true, 0, { M with n := M.n + 1 })

theorem ints_at {w : World} {ao : Option Addr} {c n : Nat} {zs : List Int} (h : Reads w (.slice ao n c) (iv zs)) {k : Nat} (hk : k < zs.length) : ∃ a, ao = some a ∧ w.cell? (a.add k) = some (.int .i64 (zs.getD k 0)) := by
  obtain ⟨ao', c', e, h0, h1, h2⟩ := h
  simp only [Value.slice.injEq, iv_length] at e h0
  obtain ⟨rfl, rfl, rfl⟩ := e
  cases ao with
  | none =>
    have := (h1 rfl).1
    have : zs = [] := by simpa [iv] using this
    subst this; simp at hk
  | some a =>
    refine ⟨a, rfl, h2 a rfl k _ ?_⟩
    simp [iv, List.getElem?_map, List.getElem?_eq_getElem hk, List.getD_eq_getElem?_getD]

theorem RD.counted {w w' : World} {r : Nat} {M : MD} {F G : List Nat} (h : RD w r M F G) (d : Bool) (t : Turn [r] w w')
    (hC : ∀ s, RefC w r s → RefC w' r { s with n := M.n + 1, dw := d }) : RD w' r { M with n := M.n + 1, dw := d } F G ∧ Turn F w w' := by
  have hr := h.own
  obtain ⟨hf, s, ao, c, xs, hR, hP, hv, hown, hT, rfl, hne, hGd⟩ := h
  have hG : ∀ k ∈ G, k ∉ [r] := fun k hk hm => (hGd k hk).1 (by simp at hm; simp [hm])
  have hP' := hP.turn t hG
  have tF : Turn (r :: (Value.slice ao M.fs.length c).ownBlock.toList) w w' := t.mono (by simp)
  exact ⟨⟨hf, _, ao, c, xs, hC s hR, ⟨hP.cap, hP.cr, hP.dn, rfl, rfl, hP'.fail, hP'.keep, hP.failG, hP.keepG, by have := hP.n0; show 0 ≤ M.n + 1; omega⟩, hv, owns_turn hown t (fun g hg => by simp; rintro rfl; exact hne hg), hT.turn t hG, rfl, hne, fun k hk => ⟨(hGd k hk).1, Nat.lt_of_lt_of_le (hGd k hk).2 t.size⟩⟩, tF⟩

set_option maxHeartbeats 1000000 in
theorem ref_gate (r : Nat) (M : MD) (F G : List Nat) (w : World) (h : RD w r M F G) (hn1 : M.n < 900000) (hfl : M.fail.length < 900000) :
    Calls Tryz.prog 69 #[theRef r] w fun e w' => e = .returned (.tuple #[.bool M.gate.1, .int .i64 M.gate.2.1]) ∧ RD w' r M.gate.2.2 F G ∧ Turn F w w' := by
  have HD := Lib.hid h
  obtain ⟨hf, s, ao, c, xs, hR, hP, hv, hown, hT, hF, hne, hGd⟩ := h
  have hn0 := hP.n0
  have hsd : s.dw = M.dw := hP.dw
  have c7 := hR.c7
  rw [hP.dw] at c7
  unfold theRef
  by_cases hdw : M.dw = true
  · have hga : M.gate = (false, 7, M) := by unfold MD.gate; rw [if_pos hdw]
    rw [hdw] at c7
    clear hP hv hown hT hne hGd hF hR hf
    go_enter Tryz.func69, Tryz.ntmps69
    go_wp2_with fail
    go_ret2
    rw [hga]
    exact ⟨rfl, HD.out, Turn.refl _ _⟩
  · have hdw1 := hdw
    rw [Bool.not_eq_true] at hdw
    rw [hdw] at c7
    have c6 := hR.c6
    have e6 := hR.free 6
    rw [hP.n] at c6
    have u6 : wrap64 (M.n + 1) = M.n + 1 := wrap64_id _ (by omega)
    have HC := Lib.hid (fun s (h : RefC w r s) => h.set6 (M.n + 1))
    have d6 := (hR.set6 (M.n + 1)).c6
    have d2 := (hR.set6 (M.n + 1)).c2
    have d3 := (hR.set6 (M.n + 1)).c3
    have d1 := (hR.set6 (M.n + 1)).c1
    have f7 := (hR.set6 (M.n + 1)).free 7
    have d7 := (hR.set6 (M.n + 1)).c7
    simp only at d6 d2 d3 d1 d7
    rw [hP.dw, hdw] at d7
    rw [hP.cr] at d2
    rw [hP.dn] at d3
    have tw : Turn [r] w (w.setCell ⟨r, 6, none⟩ (.int .i64 (M.n + 1))) := (Turn.refl [r] w).set (.inl (by simp)) 6 _
    have hG : ∀ k ∈ G, k ∉ [r] := fun k hk hm => (hGd k hk).1 (by simp at hm; simp [hm, hF])
    have hfail := hP.fail.turn tw (fun hne2 a n c e => hG _ (hP.failG (by intro e2; rw [e2] at hne2; exact hne2 rfl) a n c e))
    obtain ⟨af, cf, hflv⟩ : ∃ af cf, s.fl = .slice af M.fail.length cf := by obtain ⟨a', c', e, _⟩ := hP.fail; exact ⟨a', c', by rw [e, iv_length]⟩
    rw [hflv] at d1 hfail
    have HT := Lib.hid tw
    have HFA := Lib.hid hfail
    have HSD : Hid (∀ s', RefC w r s' → s'.dw = M.dw) := Lib.hid fun s' h' => by
      have := h'.c7
      rw [hR.c7] at this
      have e : s.dw = s'.dw := by simpa using this
      rw [← e, hsd]
    clear hP hv hown hT hne hGd hF hR hf hfail tw hG hflv hsd
    go_enter Tryz.func69, Tryz.ntmps69
    go_wp2_with fail
    clear c6 c7 e6 u6
    generalize w.setCell ⟨r, 6, none⟩ (.int .i64 (M.n + 1)) = w1 at *
    by_cases hcr : M.n + 1 = M.cr
    · have hga : M.gate = (M.dn, 7, { M with n := M.n + 1, dw := true }) := by unfold MD.gate; rw [if_neg hdw1, if_pos hcr]
      have HGA := Lib.hid hga
      have hb : (M.n + 1 == M.cr) = true := by simpa using hcr
      have HCR := Lib.hid hcr
      clear hcr d1 hga
      go_quiet (fail)
      go_wp2_with fail
      go_ret2
      rw [HGA.out]
      refine ⟨rfl, HD.out.counted true ?_ fun s hs => ?_⟩
      · exact (HT.out.drewN nq).set (.inl (by simp)) 7 _
      · exact (show RefC (w1.drewN nq) r _ from HC.out s hs).set7 true
    · have hga : M.gate = if M.fail.contains (M.n + 1) = true then (false, 6, { M with n := M.n + 1 }) else (true, 0, { M with n := M.n + 1 }) := by unfold MD.gate; rw [if_neg hdw1, if_neg hcr]
      have HGA := Lib.hid hga
      have hb : (M.n + 1 == M.cr) = false := by simpa using hcr
      have eM : ({ M with n := M.n + 1 } : MD) = { M with n := M.n + 1, dw := false } := by rw [← hdw]
      have HEND : ∀ q, RD (w1.drewN q) r { M with n := M.n + 1 } F G ∧ Turn F w (w1.drewN q) := fun q => by
        rw [eM]
        refine HD.out.counted false (HT.out.drewN q) fun s hs => ?_
        have := HC.out s hs
        have e : ({ s with n := M.n + 1, dw := false } : RS) = { s with n := M.n + 1 } := by
          rw [← hdw, ← HSD.out s hs]
        rw [e]
        exact this
      have HE := Lib.hid HEND
      clear hcr HEND eM hga
      go_quiet (fail)
      go_wp2_with fail
      obtain ⟨m, hm⟩ : ∃ m, m = M.fail.length := ⟨_, rfl⟩
      rw [← hm] at d1 HFA hfl
      have HM := Lib.hid hm
      clear hm hb
      go_loopw [4] (fun i wr => ∃ k q : Nat, k ≤ m ∧ i = .int .i64 k ∧ Hid (∀ j, j < k → M.fail.getD j 0 ≠ M.n + 1) ∧ wr = w1.drewN q)
        (fun i _ => m - (intOf i).toNat)
      case atStart => exact ⟨0, nq, Nat.zero_le _, rfl, Lib.hid (fun j hj => by omega), rfl⟩
      case round =>
        obtain ⟨k, q, hk, rfl, hno, rfl⟩ := hrel
        by_cases h1 : k < m
        · have h3 : (k : Int) < (m : Int) := by omega
          obtain ⟨a, rfl, hc⟩ := ints_at HFA.out (k := k) (by have := HM.out; omega)
          generalize hz : M.fail.getD k 0 = z at *
          by_cases hzn : z = M.n + 1
          · have hb : (z == M.n + 1) = true := by simpa using hzn
            have HX := Lib.hid (And.intro hz hzn)
            clear hz hzn
            go_wp2_with fail
            go_quiet (fail)
            go_wp2_with fail
            go_ret2
            have hcon : M.fail.contains (M.n + 1) = true := by
              have hlt : k < M.fail.length := by have := HM.out; omega
              have e : M.fail[k] = M.n + 1 := by
                have := HX.out.1
                rw [List.getD_eq_getElem?_getD, List.getElem?_eq_getElem hlt] at this
                rw [← HX.out.2, ← this]; rfl
              simp only [List.contains_iff_mem]
              rw [← e]
              exact List.getElem_mem hlt
            rw [HGA.out, if_pos hcon]
            rw [World.drewN_drewN]
            exact ⟨rfl, HE.out _⟩
          · have hb : (z == M.n + 1) = false := by simpa using hzn
            have HX := Lib.hid (And.intro hz hzn)
            clear hz hzn
            go_wp2_with fail
            go_quiet (fail)
            go_wp2_with fail
            refine ⟨⟨k + 1, _, by omega, by simp, Lib.hid (fun j hj => ?_), rfl⟩, by simp [intOf]; omega⟩
            by_cases hjk : j < k
            · exact hno.out j hjk
            · obtain rfl : j = k := by omega
              rw [HX.out.1]; exact HX.out.2
        · have h3 : ¬ (k : Int) < (m : Int) := by omega
          obtain rfl : k = m := by omega
          go_wp2_with fail
          go_ret2
          have hcon : ¬ M.fail.contains (M.n + 1) = true := by
            intro hc
            rw [List.contains_iff_mem] at hc
            obtain ⟨j, hj, e⟩ := List.getElem_of_mem hc
            refine hno.out j (by have := HM.out; omega) ?_
            rw [List.getD_eq_getElem?_getD, List.getElem?_eq_getElem hj, ← e]; rfl
          rw [HGA.out, if_neg hcon]
          exact ⟨rfl, HE.out _⟩

end Go.Proofs.YthacjeeafnblmaaGreatDoor

namespace Go.Proofs.YthacjeeafnblmaaGreatDoor
open Go.RowKit Go.Maps Go.Sort Go.WideMaps

theorem elemFile : Elem 72 92 (.agg #[.string ⟨#[]⟩, .slice none 0 0, .int .i64 0]) 3 48 := ⟨Tryz.underlying72, by kernel_rfl, by decide, by decide⟩

theorem turn_below {w w' : World} (h : Below w.heap.size w w') : Turn [] w w' := ⟨h.os, h.tape, h.output, h.size, fun k hk _ => h.block k hk⟩

theorem TellR.nil (w : World) (G : List Nat) : TellR w G [] [] := ⟨rfl, fun j x h => by cases h⟩
theorem TellR.snoc {w : World} {G : List Nat} {xs : List Value} {fs : List Ent} (h : TellR w G xs fs) (x : Ent) (ao : Option Addr) (c : Nat) (hr : Reads w (.slice ao x.2.1.length c) (bv x.2.1)) (hG : x.2.1 ≠ [] → ∀ a, ao = some a → a.block ∈ G) :
    TellR w G (xs ++ [encStr x.1, .slice ao x.2.1.length c, .int .i64 (x.2.2 : Nat)]) (fs ++ [x]) := by
  obtain ⟨hl, hx⟩ := h
  refine ⟨by simp [hl, Nat.add_mul], fun j y hj => ?_⟩
  by_cases hjl : j < fs.length
  · rw [List.getElem?_append_left hjl] at hj
    obtain ⟨ao', c', e1, e2, e3, h4, h5⟩ := hx j y hj
    exact ⟨ao', c', by rw [List.getElem?_append_left (by omega)]; exact e1, by rw [List.getElem?_append_left (by omega)]; exact e2, by rw [List.getElem?_append_left (by omega)]; exact e3, h4, h5⟩
  · have hjl2 : j = fs.length := by
      have := (List.getElem?_eq_some_iff.1 hj).1
      simp at this; omega
    subst hjl2
    rw [List.getElem?_append_right (Nat.le_refl _), Nat.sub_self] at hj
    simp only [List.getElem?_cons_zero, Option.some.injEq] at hj
    subst hj
    refine ⟨ao, c, ?_, ?_, ?_, hr, hG⟩
    · rw [List.getElem?_append_right (by omega), show fs.length * 3 - xs.length = 0 by omega]; rfl
    · rw [List.getElem?_append_right (by omega), show fs.length * 3 + 1 - xs.length = 1 by omega]; rfl
    · rw [List.getElem?_append_right (by omega), show fs.length * 3 + 2 - xs.length = 2 by omega]; rfl

theorem erase_next {fs : List Ent} {i k : Nat} {x : Ent} (hx : fs[i]? = some x) (h : i ≠ k) : (fs.take (i + 1)).eraseIdx k = (fs.take i).eraseIdx k ++ [x] := by
  have hlt := (List.getElem?_eq_some_iff.1 hx).1
  have hl : (fs.take i).length = i := by rw [List.length_take]; omega
  rw [List.take_add_one, hx]
  simp only [Option.toList_some]
  by_cases hk : k < i
  · rw [List.eraseIdx_append_of_lt_length (by omega)]
  · rw [List.eraseIdx_of_length_le (by simp [hl]; omega), List.eraseIdx_of_length_le (by omega)]
theorem erase_skip {fs : List Ent} {k : Nat} {x : Ent} (hx : fs[k]? = some x) : (fs.take (k + 1)).eraseIdx k = (fs.take k).eraseIdx k := by
  have hlt := (List.getElem?_eq_some_iff.1 hx).1
  have hl : (fs.take k).length = k := by rw [List.length_take]; omega
  rw [List.take_add_one, hx]
  simp only [Option.toList_some]
  rw [List.eraseIdx_append_of_length_le (by omega), hl, Nat.sub_self, List.eraseIdx_of_length_le (l := fs.take k) (by omega)]
  simp

end Go.Proofs.YthacjeeafnblmaaGreatDoor
