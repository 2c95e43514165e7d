/- A log whose disk may be down; what saves leave of a disk and its log. Plain facts. Numbers and types by name. -/
import Derived.Test.YthcdkggkoanjpaaGreatDoorGen
import Derived.Test.YthcdkggkoanjpaaGreatDoorWtd
import Derived.Test.YthcdkggkoanjpaaGreatDoorRrp
/- What is asked of the code's store, and sessions with it. Numbers and types by name. -/
namespace Go.Proofs.YthcdkggkoanjpaaGreatDoor
open Go.RowKit Go.Lib
set_option maxRecDepth 100000
abbrev SI := World → Nat → List Prm → List Nat → Prop
abbrev SP := World → Nat → Nat → Nat → MD → Nat → Bool → List Prm → Int → List Nat → Prop
def SNext (C : SP) (w w' : World) (base b x : Nat) (M' : MD) (n' : Nat) (s' : Bool) (L' : List Prm) (most : Int) (F : List Nat) : Prop :=
  ∃ F', C w' base b x M' n' s' L' most F' ∧ (∀ k ∈ F', k ∈ F ∨ w.heap.size ≤ k) ∧ Turn F w w'
def theSt (x : Nat) : Value := .pointer (some ⟨x, 0, none⟩)
def COpenS (C : SP) (w : World) (base b : Nat) (F : List Nat) (most : Int) (R : SOpen) (e : Ending) (w' : World) : Prop :=
  (R.e ≠ 0 ∧ e = .returned (.tuple #[.pointer none, .int .i64 R.e]) ∧ Next w w' base b R.M F) ∨
  (R.e = 0 ∧ ∃ x F', e = .returned (.tuple #[theSt x, .int .i64 0]) ∧ C w' base b x R.M R.n false R.L (max most 0) F' ∧ (∀ k ∈ F', k ∈ F ∨ w.heap.size ≤ k) ∧ Turn F w w')
structure StK (C : SP) (I : SI) : Prop where
  lt : ∀ {w base b x M n s L most F}, C w base b x M n s L most F → ∀ k ∈ F, base ≤ k ∧ k < w.heap.size
  keep : ∀ {w w' base b x M n s L most F G}, C w base b x M n s L most F → Turn G w w' → (∀ k ∈ F, k ∉ G) → C w' base b x M n s L most F
  parts : ∀ {w base b x M n s L most F}, C w base b x M n s L most F → ∃ Fd Fi, CD w base b M Fd ∧ I w x L Fi ∧ (∀ k ∈ Fd, k ∈ F ∧ k ∉ Fi) ∧ ∀ k ∈ Fi, k ∈ F
  ilt : ∀ {w x L F}, I w x L F → ∀ k ∈ F, k < w.heap.size
  ikeep : ∀ {w w' x L F G}, I w x L F → Turn G w w' → (∀ k ∈ F, k ∉ G) → I w' x L F
  iall : ∀ {w x L F}, I w x L F → Slim L → Calls Tryz.prog 26 #[theSt x] w fun e w' => ∃ ao q c, e = .returned (.slice ao q c) ∧ Prr w' (.slice ao q c) q L ∧ Turn [] w w'
  iall2 : ∀ {w x L F}, I w x L F → Slim L → Calls Tryz.prog 26 #[theSt x] w fun e w' => ∃ ao q c, e = .returned (.slice ao q c) ∧ Prr w' (.slice ao q c) q L ∧ (∀ a, (Value.slice ao q c).ownBlock = some a → w.heap.size ≤ a) ∧ Turn [] w w'
  opens : ∀ {w base b M F} (most : Int), CD w base b M F → TabAt base w → ∀ {K J j}, OFit K J j M → Calls Tryz.prog 15 #[theDisk b, .int .i64 most] w (COpenS C w base b F most (openS M))
  commit : ∀ {w base b x M n s L most F}, C w base b x M n s L most F → Tab w → ∀ {K J j X}, SFit K J j M n L X → ∀ (vo : Value) (m : Nat), (∀ w', Turn F w w' → Opr w' vo m X) → m ≤ 5000 →
    Calls Tryz.prog 23 #[theSt x, vo] w (Left fun k w' => k = (commitS most M n s L X).e ∧ SNext C w w' base b x (commitS most M n s L X).M (commitS most M n s L X).n (commitS most M n s L X).s (commitS most M n s L X).L most F)
  check : ∀ {w base b x M n s L most F}, C w base b x M n s L most F → Slim L → ∀ {K J j}, Well K M j → j + 5 ≤ J → RoomW K J → (bytesT L).length ≤ K →
    Calls Tryz.prog 20 #[theSt x] w (Left fun k w' => k = (checkS M n s L).e ∧ SNext C w w' base b x (checkS M n s L).M (checkS M n s L).n (checkS M n s L).s L most F)
  sick : ∀ {w base b x M n s L most F}, C w base b x M n s L most F → Calls Tryz.prog 22 #[theSt x] w fun e w' => e = .returned (.bool s) ∧ Turn [] w w'
  get : ∀ {w base b x M n s L most F}, C w base b x M n s L most F → Slim L → ∀ (k : ByteArray), k.size ≤ 1000000 → Calls Tryz.prog 31 #[theSt x, .string k] w fun e w' => e = .returned (.tuple #[.string (findP L k).1, .bool (findP L k).2]) ∧ Turn [] w w'
def Sess (C : SP) (w0 w : World) (base b x : Nat) (M : MD) (n : Nat) (s : Bool) (L : List Prm) (most : Int) (F : List Nat) : Prop := C w base b x M n s L most F ∧ Grow w0 w ∧ w0.heap.size ≤ base
def SesD (w0 w : World) (base b : Nat) (M : MD) (F : List Nat) : Prop := CD w base b M F ∧ Grow w0 w ∧ w0.heap.size ≤ base
def PRow (w : World) (F : List Nat) (v : Value) (q : Nat) (L : List Prm) : Prop := Prr w v q L ∧ (L ≠ [] → ∀ a, v.ownBlock = some a → a < w.heap.size ∧ a ∉ F)
def SStep (C : SP) (w0 w w' : World) (base b x : Nat) (M' : MD) (n' : Nat) (s' : Bool) (L' : List Prm) (most : Int) (F : List Nat) : Prop :=
  ∃ F', Sess C w0 w' base b x M' n' s' L' most F' ∧ (∀ k ∈ F', k ∈ F ∨ w.heap.size ≤ k) ∧ Turn F w w'
def DStep (w0 w w' : World) (base b : Nat) (M' : MD) (F : List Nat) : Prop := ∃ F', SesD w0 w' base b M' F' ∧ (∀ k ∈ F', k ∈ F ∨ w.heap.size ≤ k) ∧ Turn F w w'
theorem prr_lt {w : World} {v : Value} {q : Nat} {L : List Prm} (h : Prr w v q L) (hne : L ≠ []) : ∀ a, v.ownBlock = some a → a < w.heap.size := by
  intro a ha
  obtain ⟨hq, _, ⟨ao', c', rfl, g0, g1, g2, g3⟩, _⟩ := h
  obtain ⟨o, l, hol⟩ : ∃ o l, L = o :: l := by
    cases L with
    | nil => exact absurd rfl hne
    | cons o l => exact ⟨o, l, rfl⟩
  cases ao' with
  | none => cases ha
  | some a' =>
    have hc := g3 a' rfl 0 (.string o.key) (by rw [hol]; rfl)
    have hlt := World.block_lt_of_cell? w _ hc
    rw [add_block] at hlt
    have : a'.block = a := by simpa [Value.ownBlock] using ha
    omega
theorem PRow.step {w w' : World} {F F' : List Nat} {v : Value} {q : Nat} {L : List Prm} (h : PRow w F v q L) (t : Turn F w w') (hF : ∀ k ∈ F', k ∈ F ∨ w.heap.size ≤ k) : PRow w' F' v q L :=
  ⟨h.1.turnO t fun hne a ha => (h.2 hne a ha).2, fun hne a ha => ⟨Nat.lt_of_lt_of_le (h.2 hne a ha).1 t.size, fun hm => by
    have := h.2 hne a ha
    rcases hF a hm with h' | h'
    · exact this.2 h'
    · omega⟩⟩
theorem PRow.new {w w' : World} {F : List Nat} {v : Value} {q : Nat} {L : List Prm} (h : PRow w F v q L) (t : Turn [] w w') : PRow w' F v q L := h.step (t.mono (by simp)) fun _ hk => .inl hk
theorem PRow.fresh {w w' : World} {F : List Nat} {v : Value} {q : Nat} {L : List Prm} (h : Prr w' v q L) (hf : ∀ a, v.ownBlock = some a → w.heap.size ≤ a) (hF : ∀ k ∈ F, k < w.heap.size) : PRow w' F v q L :=
  ⟨h, fun hne a ha => ⟨prr_lt h hne a ha, fun hm => by have := hf a ha; have := hF a hm; omega⟩⟩
theorem PRow.nil (w : World) (F : List Nat) : PRow w F (.slice none 0 0) 0 [] := ⟨Prr.nil w, fun h => absurd rfl h⟩
theorem turn_base {w0 w w' : World} {base : Nat} {F : List Nat} (hg : Grow w0 w) (hb : w0.heap.size ≤ base) (hF : ∀ k ∈ F, base ≤ k) (t : Turn F w w') : Grow w0 w' :=
  tg9 ((tb9 hg).trans' t fun k hk => .inr (Nat.le_trans hb (hF k hk)))
theorem Sess.next {C : SP} {I : SI} (K : StK C I) {w0 w w' : World} {base b x : Nat} {M M' : MD} {n n' : Nat} {s s' : Bool} {L L' : List Prm} {most : Int} {F : List Nat} (h : Sess C w0 w base b x M n s L most F) (hn : SNext C w w' base b x M' n' s' L' most F) : SStep C w0 w w' base b x M' n' s' L' most F := by
  obtain ⟨F', h1, h2, h3⟩ := hn
  exact ⟨F', ⟨h1, turn_base h.2.1 h.2.2 (fun k hk => (K.lt h.1 k hk).1) h3, h.2.2⟩, h2, h3⟩
theorem Sess.new {C : SP} {I : SI} (K : StK C I) {w0 w w' : World} {base b x : Nat} {M : MD} {n : Nat} {s : Bool} {L : List Prm} {most : Int} {F : List Nat} (h : Sess C w0 w base b x M n s L most F) (t : Turn [] w w') : Sess C w0 w' base b x M n s L most F :=
  ⟨K.keep h.1 t (by simp), h.2.1.trans (tg9 t), h.2.2⟩
theorem Sess.parts {C : SP} {I : SI} (K : StK C I) {w0 w : World} {base b x : Nat} {M : MD} {n : Nat} {s : Bool} {L : List Prm} {most : Int} {F : List Nat} (h : Sess C w0 w base b x M n s L most F) : ∃ Fd Fi, SesD w0 w base b M Fd ∧ I w x L Fi ∧ (∀ k ∈ Fd, k ∈ F ∧ k ∉ Fi) ∧ ∀ k ∈ Fi, k ∈ F := by
  obtain ⟨Fd, Fi, h1, h2, h3, h4⟩ := K.parts h.1
  exact ⟨Fd, Fi, ⟨h1, h.2.1, h.2.2⟩, h2, h3, h4⟩
theorem PRow.sub {w : World} {F F' : List Nat} {v : Value} {q : Nat} {L : List Prm} (h : PRow w F v q L) (hF : ∀ k ∈ F', k ∈ F) : PRow w F' v q L := ⟨h.1, fun hne a ha => ⟨(h.2 hne a ha).1, fun hm => (h.2 hne a ha).2 (hF a hm)⟩⟩
theorem SesD.new {w0 w w' : World} {base b : Nat} {M : MD} {F : List Nat} (h : SesD w0 w base b M F) (t : Turn [] w w') : SesD w0 w' base b M F := ⟨h.1.new t, h.2.1.trans (tg9 t), h.2.2⟩
theorem SesD.next {w0 w w' : World} {base b : Nat} {M M' : MD} {F : List Nat} (h : SesD w0 w base b M F) (hn : Next w w' base b M' F) : DStep w0 w w' base b M' F := by
  obtain ⟨F', h1, h2, h3⟩ := hn
  exact ⟨F', ⟨h1, turn_base h.2.1 h.2.2 (fun k hk => (h.1.lt k hk).1) h3, h.2.2⟩, h2, h3⟩
theorem SesD.tab {w0 w : World} {base b : Nat} {M : MD} {F : List Nat} (h : SesD w0 w base b M F) (ht : Tab w0) : TabAt base w := TabAt.mk ht h.2.1 h.2.2
theorem sess_commit {C : SP} {I : SI} (K : StK C I) {w0 w : World} {base b x : Nat} {M : MD} {n : Nat} {s : Bool} {L : List Prm} {most : Int} {F : List Nat} (h : Sess C w0 w base b x M n s L most F) (ht : Tab w0) {K1 J j : Nat} {X : List Opm} (hf : SFit K1 J j M n L X) {vo : Value} {m : Nat} (ho : Opr w0 vo m X) (hm : m ≤ 5000) :
    Calls Tryz.prog 23 #[theSt x, vo] w (Left fun k w' => k = (commitS most M n s L X).e ∧ SStep C w0 w w' base b x (commitS most M n s L X).M (commitS most M n s L X).n (commitS most M n s L X).s (commitS most M n s L X).L most F) := by
  refine (K.commit h.1 (ht.later h.2.1) hf vo m (fun w' t => ho.later (turn_base h.2.1 h.2.2 (fun k hk => (K.lt h.1 k hk).1) t)) hm).mono ?_
  rintro e w' ⟨k, rfl, hk, hn⟩
  exact ⟨k, rfl, hk, h.next K hn⟩
theorem sess_check {C : SP} {I : SI} (K : StK C I) {w0 w : World} {base b x : Nat} {M : MD} {n : Nat} {s : Bool} {L : List Prm} {most : Int} {F : List Nat} (h : Sess C w0 w base b x M n s L most F) (hs : Slim L) {K1 J j : Nat} (hw : Well K1 M j) (hj : j + 5 ≤ J) (hR : RoomW K1 J) (hK : (bytesT L).length ≤ K1) :
    Calls Tryz.prog 20 #[theSt x] w (Left fun k w' => k = (checkS M n s L).e ∧ SStep C w0 w w' base b x (checkS M n s L).M (checkS M n s L).n (checkS M n s L).s L most F) := by
  refine (K.check h.1 hs hw hj hR hK).mono ?_
  rintro e w' ⟨k, rfl, hk, hn⟩
  exact ⟨k, rfl, hk, h.next K hn⟩
theorem sess_open {C : SP} {I : SI} (K : StK C I) {w0 w : World} {base b : Nat} {M : MD} {F : List Nat} (most : Int) (h : SesD w0 w base b M F) (ht : Tab w0) {K1 J j : Nat} (hf : OFit K1 J j M) (h0 : (openS M).e = 0) :
    Calls Tryz.prog 15 #[theDisk b, .int .i64 most] w fun e w' => ∃ x, e = .returned (.tuple #[theSt x, .int .i64 0]) ∧ SStep C w0 w w' base b x (openS M).M (openS M).n false (openS M).L (max most 0) F := by
  refine (K.opens most h.1 (h.tab ht) hf).mono ?_
  rintro e w' (⟨h1, _⟩ | ⟨_, x, F', rfl, h2, h3, h4⟩)
  · exact absurd h0 h1
  · exact ⟨x, rfl, F', ⟨h2, turn_base h.2.1 h.2.2 (fun k hk => (h.1.lt k hk).1) h4, h.2.2⟩, h3, h4⟩
theorem sess_all {C : SP} {I : SI} (K : StK C I) {w0 w : World} {base b x : Nat} {M : MD} {n : Nat} {s : Bool} {L : List Prm} {most : Int} {F : List Nat} (h : Sess C w0 w base b x M n s L most F) (hs : Slim L) :
    Calls Tryz.prog 26 #[theSt x] w fun e w' => ∃ ao q c, e = .returned (.slice ao q c) ∧ Prr w' (.slice ao q c) q L ∧ Turn [] w w' := by
  obtain ⟨_, Fi, _, h2, _⟩ := K.parts h.1
  exact K.iall h2 hs
theorem pairs_at {v1 v2 : Value} {n m : Nat} {ps qs : List Prm} {w : World} (h1 : Prr w v1 n ps) (h2 : Prr w v2 m qs) (b : Bool) (hb : b = decide (ps = qs)) : Calls Tryz.prog 25 #[v1, v2] w fun e w' => e = .returned (.bool b) ∧ Turn [] w w' := by
  refine (same_pairs v1 v2 n m ps qs w h1 h2).mono ?_
  rintro e w' ⟨k, rfl, rfl⟩
  exact ⟨by rw [hb], (Turn.refl [] w).drewN k⟩
theorem opr_turnO {w w' : World} {v : Value} {n : Nat} {L : List Opm} {F : List Nat} (h : Opr w v n L) (t : Turn F w w') (hF : ∀ a, v.ownBlock = some a → a ∉ F) : Opr w' v n L := by
  obtain ⟨h1, h2, ⟨ao, c, e, g0, g1, g2, g3⟩, h4⟩ := h
  refine ⟨h1, h2, ⟨ao, c, e, g0, g1, g2, fun a ha j u hj => ?_⟩, h4⟩
  have hc := g3 a ha j u hj
  have hlt := World.block_lt_of_cell? w _ hc
  rw [add_block] at hlt
  rw [World.cell?_of_block (w := w) (w' := w') (by rw [add_block]; exact t.block _ hlt (hF _ (by rw [e, ha]; rfl)))]
  exact hc
theorem opr_lit (w : World) (o : Opm) (h : o.key.size ≤ 1000000 ∧ o.val.size ≤ 1000000) : Opr (w.alloc (.cells (ov o).toArray 65)) (.slice (some ⟨w.heap.size, 0, none⟩) 1 1) 1 [o] :=
  ⟨rfl, by unfold maxLen; omega, by
    have := Cells.lit w (ov o) 65 (0, 0) 3 1 rfl
    simpa [ovs] using this, fun p hp => by
    rw [List.mem_singleton.1 hp]
    unfold maxLen
    omega⟩
theorem sess_commit_one {C : SP} {I : SI} (K : StK C I) {w0 w : World} {base b x : Nat} {M : MD} {n : Nat} {s : Bool} {L : List Prm} {most : Int} {F : List Nat} (h : Sess C w0 w base b x M n s L most F) (ht : Tab w0) {K1 J j : Nat} {o : Opm} (hf : SFit K1 J j M n L [o]) (ho : o.key.size ≤ 1000000 ∧ o.val.size ≤ 1000000) :
    Calls Tryz.prog 23 #[theSt x, .slice (some ⟨w.heap.size, 0, none⟩) 1 1] (w.alloc (.cells (ov o).toArray 65)) (Left fun k w' => k = (commitS most M n s L [o]).e ∧ SStep C w0 w w' base b x (commitS most M n s L [o]).M (commitS most M n s L [o]).n (commitS most M n s L [o]).s (commitS most M n s L [o]).L most F) := by
  have tt : Turn [] w (w.alloc (.cells (ov o).toArray 65)) := (Turn.refl [] w).alloc _
  have h' := h.new K tt
  refine (K.commit h'.1 (ht.later h'.2.1) hf _ 1 (fun w' t => opr_turnO (opr_lit w o ho) t fun a ha hm => ?_) (by decide)).mono ?_
  · have e : w.heap.size = a := by simpa [Value.ownBlock] using ha
    have := (K.lt h.1 a hm).2
    omega
  · rintro e w' ⟨k, rfl, hk, hn⟩
    obtain ⟨F', k1, k2, k3⟩ := h'.next K hn
    exact ⟨k, rfl, hk, F', k1, fun q hq => (k2 q hq).imp id (fun h => Nat.le_trans tt.size h), (tt.mono (by simp)).trans k3⟩
theorem sesd_restart {w0 w : World} {base b : Nat} {M : MD} {F : List Nat} (h : SesD w0 w base b M F) (hl : Lim M) (cap cr : Int) (dn : Bool) :
    Calls Tryz.prog 18 #[theDisk b, .agg #[.int .i64 cap, .slice none 0 0, .int .i64 cr, .bool dn, .slice none 0 0]] w fun e w' => e = .returned (.tuple #[]) ∧ DStep w0 w w' base b (M.restart cap cr dn [] []) F := by
  refine (restart_cd base b M F cap cr dn (.slice none 0 0) (.slice none 0 0) [] [] w h.1 hl (Reads.nil w) (Reads.nil w) (fun h => absurd rfl h) (fun h => absurd rfl h) (by simp) (by simp)).mono ?_
  rintro e w' ⟨rfl, hn⟩
  exact ⟨rfl, h.next hn⟩
theorem sess_restart {C : SP} {I : SI} (K : StK C I) {w0 w : World} {base b x : Nat} {M : MD} {n : Nat} {s : Bool} {L : List Prm} {most : Int} {F : List Nat} (h : Sess C w0 w base b x M n s L most F) (hl : Lim M) (cap cr : Int) (dn : Bool) :
    Calls Tryz.prog 18 #[theDisk b, .agg #[.int .i64 cap, .slice none 0 0, .int .i64 cr, .bool dn, .slice none 0 0]] w fun e w' => e = .returned (.tuple #[]) ∧ ∃ Fi, I w' x L Fi ∧ (∀ k ∈ Fi, k ∈ F) ∧ ∃ F', SesD w0 w' base b (M.restart cap cr dn [] []) F' ∧ (∀ k ∈ F', k ∈ F ∨ w.heap.size ≤ k) ∧ Turn F w w' ∧ ∀ k ∈ F', k ∉ Fi := by
  obtain ⟨Fd, Fi, h1, h2, h3, h4⟩ := h.parts K
  refine (sesd_restart h1 hl cap cr dn).mono ?_
  rintro e w' ⟨rfl, F', k1, k2, k3⟩
  refine ⟨rfl, Fi, K.ikeep h2 k3 (fun k hk hm => (h3 k hm).2 hk), h4, F', k1, fun k hk => (k2 k hk).imp (fun h => (h3 k h).1) id, k3.mono (fun k hk => (h3 k hk).1), fun k hk hm => ?_⟩
  rcases k2 k hk with h | h
  · exact (h3 k h).2 hm
  · have := K.ilt h2 k hm
    omega
theorem sesd_open_any {C : SP} {I : SI} (K : StK C I) {w0 w : World} {base b : Nat} {M : MD} {F : List Nat} (most : Int) (h : SesD w0 w base b M F) (ht : Tab w0) {K1 J j : Nat} (hf : OFit K1 J j M) :
    Calls Tryz.prog 15 #[theDisk b, .int .i64 most] w fun e w' => ∃ v1 v2, e = .returned (.tuple #[v1, v2]) ∧ DStep w0 w w' base b (openS M).M F := by
  refine (K.opens most h.1 (h.tab ht) hf).mono ?_
  rintro e w' (⟨_, rfl, hn⟩ | ⟨_, x, F', rfl, h2, h3, h4⟩)
  · exact ⟨_, _, rfl, h.next hn⟩
  · obtain ⟨Fd, Fi, k1, k2, k3, k4⟩ := K.parts h2
    exact ⟨_, _, rfl, Fd, ⟨k1, turn_base h.2.1 h.2.2 (fun k hk => (h.1.lt k hk).1) h4, h.2.2⟩, fun k hk => h3 k (k3 k hk).1, h4⟩
theorem sesd_restart_k {w0 w : World} {base b : Nat} {M : MD} {F : List Nat} (h : SesD w0 w base b M F) (hl : Lim M) (cap cr : Int) (dn : Bool) (kp : Int) :
    Calls Tryz.prog 18 #[theDisk b, .agg #[.int .i64 cap, .slice none 0 0, .int .i64 cr, .bool dn, .slice (some ⟨w.heap.size, 0, none⟩) 1 1]] (w.alloc (.cells #[.int .i64 kp] 3)) fun e w' => e = .returned (.tuple #[]) ∧ DStep w0 w w' base b (M.restart cap cr dn [] [kp]) F := by
  have tt : Turn [] w (w.alloc (.cells #[.int .i64 kp] 3)) := (Turn.refl [] w).alloc _
  have h' := h.new tt
  refine (restart_cd base b M F cap cr dn (.slice none 0 0) (.slice (some ⟨w.heap.size, 0, none⟩) 1 1) [] [kp] _ h'.1 hl (Reads.nil _) (Reads.lit w (iv [kp]) 3 (0, 0) 1 rfl) (fun h => absurd rfl h) (fun _ a n c e hm => ?_) (by simp) (by simp)).mono ?_
  · simp only [Value.slice.injEq, Option.some.injEq] at e
    have := (h.1.lt _ hm).2
    rw [← e.1] at this
    exact absurd this (Nat.lt_irrefl _)
  · rintro e w' ⟨rfl, hn⟩
    obtain ⟨F', k1, k2, k3⟩ := h'.next hn
    exact ⟨rfl, F', k1, fun q hq => (k2 q hq).imp id (fun h => Nat.le_trans tt.size h), (tt.mono (by simp)).trans k3⟩
end Go.Proofs.YthcdkggkoanjpaaGreatDoor

namespace Go.Proofs.YthcdkggkoanjpaaGreatDoor
open Go.RowKit Go.Lib
def Fit2 (M : MD) (n : Nat) (s : Bool) : Prop := s = false → M.dw = false → Has M n
theorem Fits.two {M : MD} {n : Nat} {s : Bool} (h : Fits M n s) : Fit2 M n s := fun hs _ => h hs
theorem act_up {M : MD} {op : Opn} (h : (M.act op).2.dw = false) : M.dw = false := by
  cases hd : M.dw with
  | false => rfl
  | true =>
    rw [act_down hd] at h
    rw [← hd]
    exact h
theorem act_ok_up {M : MD} {op : Opn} (h : (M.act op).1 = 0) : (M.act op).2.dw = false := by
  cases hd : M.dw with
  | true =>
    rw [act_down hd] at h
    cases h
  | false =>
    rcases act_cases hd op with ⟨a1, _⟩ | ⟨_, a2, _⟩ | ⟨_, a2, _⟩
    · rw [h] at a1
      cases a1
    · exact a2
    · exact a2
theorem run_up : ∀ (l : List Opn) (M : MD), (runOps l M).2.dw = false → M.dw = false
  | [], _, h => h
  | op :: l, M, h => by
    rw [runOps_one] at h
    split at h
    · exact act_up (run_up l _ h)
    · exact act_up h
theorem run_ok_up : ∀ (l : List Opn) (M : MD), (runOps l M).1 = 0 → M.dw = false → (runOps l M).2.dw = false
  | [], _, _, hd => hd
  | op :: l, M, h, _ => by
    rw [runOps_one] at h ⊢
    split at h
    · rename_i h0
      rw [if_pos h0]
      exact run_ok_up l _ h (act_ok_up h0)
    · rename_i h0
      exact absurd h h0
theorem save_up {M : MD} {L : List Prm} (h : (saveT M L).1 = 0) : (saveT M L).2.dw = false := by
  unfold saveT at *
  split at h
  · rename_i hR
    rw [if_pos hR]
    unfold saveP at *
    refine run_ok_up _ _ h ?_
    cases hd : M.dw with
    | false => rfl
    | true =>
      exfalso
      unfold saveOps at h
      split at h
      · rw [List.cons_append, runOps_one, act_down hd, if_neg (show ¬ (7 : Int) = 0 by decide)] at h
        cases h
      · rw [List.nil_append, runOps_one, act_down hd, if_neg (show ¬ (7 : Int) = 0 by decide)] at h
        cases h
  · cases h
theorem fit2_save {M : MD} {n : Nat} {s : Bool} (h : Fit2 M n s) (hr : Rising M.fs) (L : List Prm) : Fit2 (saveT M L).2 n s := by
  intro hs hd
  have hd0 : M.dw = false := by
    unfold saveT at hd
    split at hd
    · exact run_up _ _ hd
    · exact hd
  obtain ⟨_, x, h1, h2⟩ := h hs hd0
  exact ⟨hd, x, (saveT_log hr L).trans h1, h2⟩
theorem fits_save {M : MD} {n : Nat} {s : Bool} (h : Fit2 M n s) (hr : Rising M.fs) {L : List Prm} (h0 : (saveT M L).1 = 0) : Fits (saveT M L).2 n s := fun hs => fit2_save h hr L hs (save_up h0)
theorem fit2_commit {M : MD} {n : Nat} {s : Bool} (h : Fit2 M n s) (L : List Opm) : Fit2 (commitP M n s L).M (commitP M n s L).n (commitP M n s L).s := by
  cases hd : M.dw with
  | false => exact (fits_commit (fun hs => h hs hd) L).two
  | true =>
    unfold commitP
    cases s with
    | true =>
      rw [if_pos rfl]
      intro hs
      cases hs
    | false =>
      rw [if_neg (by simp)]
      split
      · exact h
      · unfold commitA
        rw [act_down hd, if_neg (show ¬ (7 : Int) = 0 by decide)]
        unfold commitC
        rw [if_pos rfl]
        intro hs
        cases hs
end Go.Proofs.YthcdkggkoanjpaaGreatDoor
