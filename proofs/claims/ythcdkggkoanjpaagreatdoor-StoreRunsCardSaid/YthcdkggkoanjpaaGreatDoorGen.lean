/- append to own rows of whatever elements: ops, lists of ops. Numbers and types by name. -/
import Derived.Test.YthcdkggkoanjpaaGreatDoorRu
import Derived.Test.YthcdkggkoanjpaaGreatDoorMgs
import Derived.Test.YthcdkggkoanjpaaGreatDoorWft
import Derived.Test.YthcdkggkoanjpaaGreatDoorChecked
import Derived.WalkKit
import Derived.WalkLawsBesides
import Derived.Lib.Hide
import Derived.BigQuiet
import Derived.Deep.QuietTactic
import Derived.ArgAppend
import Derived.OwnWalk
import Derived.Deep.RegionLaw
import Derived.Deep.AppendLies
import Derived.Lib.AppendStr
import Derived.Laws.IdiomStrings
import Derived.Lib.SlBytesConst
import Derived.Test.YthcdkggkoanjpaaGreatDoorOpr
namespace Go.Proofs.YthcdkggkoanjpaaGreatDoor
open Go.RowKit Go.Lib
set_option maxRecDepth 100000
def wob (T : TypeId) (d : Value) (n : Nat) (s : Bool) : Obj := .cells #[d, .int .i64 (n : Int), .bool s] T
theorem wob_n {T : TypeId} {w : World} {p : Nat} {d : Value} {n : Nat} {s : Bool} (h : w.heap[p]? = some (wob T d n s)) (m : Nat) : (w.setCell ⟨p, 1, none⟩ (.int .i64 (m : Int))).heap[p]? = some (wob T d m s) := heap_set h 1 _
theorem wob_s {T : TypeId} {w : World} {p : Nat} {d : Value} {n : Nat} {s : Bool} (h : w.heap[p]? = some (wob T d n s)) (b : Bool) : (w.setCell ⟨p, 2, none⟩ (.bool b)).heap[p]? = some (wob T d n b) := heap_set h 2 _
theorem wob_0 {T : TypeId} {w : World} {p : Nat} {d : Value} {n : Nat} {s : Bool} (h : w.heap[p]? = some (wob T d n s)) : w.cell? ⟨p, 0, none⟩ = some d := cells_of h 0 _ rfl
theorem wob_1 {T : TypeId} {w : World} {p : Nat} {d : Value} {n : Nat} {s : Bool} (h : w.heap[p]? = some (wob T d n s)) : w.cell? ⟨p, 1, none⟩ = some (.int .i64 (n : Int)) := cells_of h 1 _ rfl
theorem wob_2 {T : TypeId} {w : World} {p : Nat} {d : Value} {n : Nat} {s : Bool} (h : w.heap[p]? = some (wob T d n s)) : w.cell? ⟨p, 2, none⟩ = some (.bool s) := cells_of h 2 _ rfl
theorem wob_free {T : TypeId} {w : World} {p : Nat} {d : Value} {n : Nat} {s : Bool} (h : w.heap[p]? = some (wob T d n s)) (j : Nat) : w.frozen? ⟨p, j, none⟩ = false := free_of h j
def RW (w : World) (r p : Nat) (M : MD) (n : Nat) (s : Bool) (F G : List Nat) : Prop :=
  RD w r M F G ∧ p ∉ F ∧ p ∉ G ∧ w.heap[p]? = some (wob 46 (theRef r) n s)
def RWNext (w w' : World) (r p : Nat) (M' : MD) (n' : Nat) (s' : Bool) (F G : List Nat) : Prop :=
  ∃ F' G', RW w' r p M' n' s' F' G' ∧ (∀ k ∈ F', k ∈ F ∨ w.heap.size ≤ k) ∧ (∀ k ∈ G', k ∈ G ∨ w.heap.size ≤ k) ∧ Turn (p :: F) w w'
theorem RW.lt {w : World} {r p : Nat} {M : MD} {n : Nat} {s : Bool} {F G : List Nat} (h : RW w r p M n s F G) : p < w.heap.size := lt_of h.2.2.2
theorem RW.keep {w w' : World} {r p : Nat} {M : MD} {n : Nat} {s : Bool} {F G H : List Nat} (h : RW w r p M n s F G) (t : Turn H w w') (hp : p ∉ H) (hF : ∀ k ∈ F, k ∉ H) (hG : ∀ k ∈ G, k ∉ H) : RW w' r p M n s F G :=
  ⟨h.1.keep t hF hG, h.2.1, h.2.2.1, t.heap h.2.2.2 hp⟩
theorem RW.next {w w' : World} {r p : Nat} {M : MD} {n : Nat} {s : Bool} {F G : List Nat} (h : RW w' r p M n s F G) (t : Turn (p :: F) w w') : RWNext w w' r p M n s F G :=
  ⟨F, G, h, fun _ hk => .inl hk, fun _ hk => .inl hk, t⟩
theorem RW.disk {w w' : World} {r p : Nat} {M M' : MD} {n : Nat} {s : Bool} {F G : List Nat} (h : RW w r p M n s F G) (hn : RNext w w' r M' F G []) : RWNext w w' r p M' n s F G := by
  obtain ⟨F', G', h1, h2, h3, t⟩ := hn
  have hp := h.lt
  refine ⟨F', G', ⟨h1, fun hm => ?_, fun hm => ?_, t.heap h.2.2.2 h.2.1⟩, h2, fun k hk => ?_, t.mono fun x hx => List.mem_cons_of_mem _ hx⟩
  · rcases h2 p hm with h' | h'
    · exact h.2.1 h'
    · omega
  · rcases h3 p hm with h' | h' | h'
    · exact h.2.2.1 h'
    · cases h'
    · omega
  · rcases h3 k hk with h' | h' | h'
    · exact .inl h'
    · cases h'
    · exact .inr h'
theorem RWNext.then {w w1 w' : World} {r p : Nat} {M1 M' : MD} {n1 n' : Nat} {s1 s' : Bool} {F G : List Nat} (h : RWNext w w1 r p M1 n1 s1 F G) (k : ∀ F1 G1, RW w1 r p M1 n1 s1 F1 G1 → RWNext w1 w' r p M' n' s' F1 G1) : RWNext w w' r p M' n' s' F G := by
  obtain ⟨F1, G1, h1, h2, h3, h4⟩ := h
  obtain ⟨F', G', k1, k2, k3, k4⟩ := k F1 G1 h1
  have hs := h4.size
  refine ⟨F', G', k1, fun x hx => ?_, fun x hx => ?_, h4.trans' k4 fun x hx => ?_⟩
  · rcases k2 x hx with h' | h'
    · exact h2 x h'
    · exact .inr (by omega)
  · rcases k3 x hx with h' | h'
    · exact h3 x h'
    · exact .inr (by omega)
  · rcases List.mem_cons.1 hx with rfl | hx
    · exact .inl (by simp)
    · rcases h2 x hx with h' | h'
      · exact .inl (List.mem_cons_of_mem _ h')
      · exact .inr h'
theorem RWNext.then' {w w1 w' : World} {r p : Nat} {M1 M' : MD} {n1 n' : Nat} {s1 s' : Bool} {F G F1 G1 : List Nat} (h1 : RW w1 r p M1 n1 s1 F1 G1) (h2 : ∀ k ∈ F1, k ∈ F ∨ w.heap.size ≤ k) (h3 : ∀ k ∈ G1, k ∈ G ∨ w.heap.size ≤ k) (h4 : Turn (p :: F) w w1) (k : RWNext w1 w' r p M' n' s' F1 G1) : RWNext w w' r p M' n' s' F G := by
  obtain ⟨F', G', k1, k2, k3, k4⟩ := k
  have hs := h4.size
  refine ⟨F', G', k1, fun x hx => ?_, fun x hx => ?_, h4.trans' k4 fun x hx => ?_⟩
  · rcases k2 x hx with h' | h'
    · exact h2 x h'
    · exact .inr (by omega)
  · rcases k3 x hx with h' | h'
    · exact h3 x h'
    · exact .inr (by omega)
  · rcases List.mem_cons.1 hx with rfl | hx
    · exact .inl (by simp)
    · rcases h2 x hx with h' | h'
      · exact .inl (List.mem_cons_of_mem _ h')
      · exact .inr h'
theorem RWNext.after {w w1 w' : World} {r p : Nat} {M' : MD} {n' : Nat} {s' : Bool} {F G : List Nat} (t : Turn [] w w1) (h : RWNext w1 w' r p M' n' s' F G) : RWNext w w' r p M' n' s' F G := by
  obtain ⟨F', G', k1, k2, k3, k4⟩ := h
  have hs := t.size
  exact ⟨F', G', k1, fun x hx => (k2 x hx).imp id (fun h => by omega), fun x hx => (k3 x hx).imp id (fun h => by omega), (t.mono (by simp)).trans k4⟩
theorem RW.set {w : World} {r p : Nat} {M : MD} {n n' : Nat} {s s' : Bool} {F G : List Nat} (h : RW w r p M n s F G) (j : Nat) (v : Value) (ho : (w.setCell ⟨p, j, none⟩ v).heap[p]? = some (wob 46 (theRef r) n' s')) : RWNext w (w.setCell ⟨p, j, none⟩ v) r p M n' s' F G := by
  have t : Turn [p] w (w.setCell ⟨p, j, none⟩ v) := (Turn.refl [p] w).set (.inl (by simp)) j v
  refine RW.next ⟨h.1.keep t (fun k hk => ?_) (fun k hk => ?_), h.2.1, h.2.2.1, ho⟩ (t.mono fun x hx => by rw [List.mem_singleton.1 hx]; simp)
  · intro e; rw [List.mem_singleton.1 e] at hk; exact h.2.1 hk
  · intro e; rw [List.mem_singleton.1 e] at hk; exact h.2.2.1 hk
theorem RW.set_n {w : World} {r p : Nat} {M : MD} {n : Nat} {s : Bool} {F G : List Nat} (h : RW w r p M n s F G) (m : Nat) : RWNext w (w.setCell ⟨p, 1, none⟩ (.int .i64 (m : Int))) r p M m s F G := h.set 1 _ (wob_n h.2.2.2 m)
theorem RW.set_s {w : World} {r p : Nat} {M : MD} {n : Nat} {s : Bool} {F G : List Nat} (h : RW w r p M n s F G) (b : Bool) : RWNext w (w.setCell ⟨p, 2, none⟩ (.bool b)) r p M n b F G := h.set 2 _ (wob_s h.2.2.2 b)
set_option maxHeartbeats 4000000 in
theorem ref_reset (r p : Nat) (M : MD) (n : Nat) (s : Bool) (F G : List Nat) (w : World) (h : RW w r p M n s F G) (hl : Lim M) :
    Calls Tryz.prog 48 #[.pointer (some ⟨p, 0, none⟩)] w (Left fun k w' => k = (resetP M n s).e ∧ RWNext w w' r p (resetP M n s).M (resetP M n s).n (resetP M n s).s F G) := by
  have c0 := wob_0 h.2.2.2
  have c2 := wob_2 h.2.2.2
  unfold theRef at c0
  unfold resetP
  cases s with
  | true =>
    rw [if_pos rfl]
    have HN := Lib.hid h
    clear h
    go_enter Tryz.func48, Tryz.ntmps48
    go_wp2_with fail
    go_ret
    exact ⟨8, rfl, rfl, HN.out.next (Turn.refl _ _)⟩
  | false =>
    rw [if_neg (by simp)]
    have HC := ref_cut r M F G logS 0 w h.1 hl
    rw [logS_list] at HC
    unfold theRef logS at HC
    have HN := Lib.hid h
    obtain ⟨k, hk⟩ : ∃ k, k = (M.act (opCut logK 0)).1 := ⟨_, rfl⟩
    obtain ⟨M', hM'⟩ : ∃ M', M' = (M.act (opCut logK 0)).2 := ⟨_, rfl⟩
    unfold RActed at HC
    rw [← hk, ← hM'] at HC ⊢
    clear h hk hM'
    go_enter Tryz.func48, Tryz.ntmps48
    go_wp2_with fail
    refine HC.mono ?_
    rintro e w1 ⟨k', rfl, rfl, hn⟩
    have H1 := Lib.hid (HN.out.disk hn)
    have c2 := wob_2 (H1.out.choose_spec.choose_spec.1).2.2.2
    have c1 := wob_1 (H1.out.choose_spec.choose_spec.1).2.2.2
    have f1 := wob_free (H1.out.choose_spec.choose_spec.1).2.2.2 1
    have f2 := wob_free (H1.out.choose_spec.choose_spec.1).2.2.2 2
    clear hn HC c0
    by_cases h0 : k' = 0
    · subst h0
      go_wp2_with fail
      go_ret
      exact ⟨0, rfl, rfl, H1.out.then fun F1 G1 h1 => (h1.set_n 0).then fun F2 G2 h2 => h2.set_s false⟩
    · go_wp2_with fail
      go_ret
      exact ⟨k', rfl, rfl, H1.out.then fun F1 G1 h1 => h1.set_s (k' == 7)⟩
def errB (L : List Opm) : Int := if okOps L = true then 0 else 1
def bytesB (L : List Opm) : List UInt8 := if okOps L = true then frms (recs L) else []
theorem ref_ops_told (v : Value) (n : Nat) (L : List Opm) (w : World) (hr : Opr w v n L) (hb : bulkO L ≤ 5000) :
    Calls Tryz.prog 99 #[v] w fun e w' => ∃ ao m c, e = .returned (.tuple #[.slice ao m c, .int .i64 (errB L)]) ∧ Bs w' w.heap.size (.slice ao m c) m (bytesB L) ∧ Below w.heap.size w w' := by
  unfold errB bytesB
  cases hok : okOps L with
  | true => exact ref_ops v n L w hr hok hb
  | false =>
    refine (ref_ops_bad v n L w hr hok).mono ?_
    rintro e w' ⟨rfl, rfl⟩
    exact ⟨none, 0, 0, rfl, ⟨rfl, World.ownsRow_nil _ _ _ _⟩, Below.refl _ _⟩
theorem Turn.nil_any {w w' : World} {F : List Nat} (t : Turn [] w w') : Turn F w w' := t.mono (by simp)
theorem Bs.turn {w w' : World} {base : Nat} {v : Value} {n : Nat} {l : List UInt8} {F : List Nat} (h : Bs w base v n l) (t : Turn F w w') (hF : ∀ k ∈ F, k < base) : Reads w' v (bv l) := by
  have hr := h.reads
  obtain ⟨ao, c, e, h0, h1, h2⟩ := hr
  refine ⟨ao, c, e, h0, h1, fun a ha j u hj => ?_⟩
  have hc := h2 a ha j u hj
  have hlt := World.block_lt_of_cell? w _ hc
  refine (World.cell?_of_block (t.block _ hlt fun hm => ?_)).trans hc
  have hb : (a.add j).block = a.block := by unfold Addr.add; split <;> rfl
  rw [hb] at hm
  have := hF _ hm
  have hown : v.ownBlock = some a.block := by rw [e, ha]; rfl
  have := (h.2.lt _ hown).1
  omega
set_option maxHeartbeats 4000000 in
theorem ref_commitW (r p : Nat) (M : MD) (n : Nat) (s : Bool) (F G : List Nat) (v : Value) (m : Nat) (L : List Opm) (w : World) (h : RW w r p M n s F G) (hr : Opr w v m L) (hb : bulkO L ≤ 5000) (hcap : M.cap ≤ 9223372036854775807) {K J j : Nat} (hw : Well K M j) (hj : j + 2 ≤ J) (hK : RoomW K J) (hK2 : (frms (recs L)).length ≤ K) (hn : n ≤ 900000000) :
    Calls Tryz.prog 52 #[.pointer (some ⟨p, 0, none⟩), v] w (Left fun k w' => k = (commitP M n s L).e ∧ RWNext w w' r p (commitP M n s L).M (commitP M n s L).n (commitP M n s L).s F G) := by
  obtain ⟨ao, c, rfl⟩ := hr.shape
  have c0 := wob_0 h.2.2.2
  have c2 := wob_2 h.2.2.2
  unfold theRef at c0
  unfold commitP
  have HN := Lib.hid h
  cases s with
  | true =>
    rw [if_pos rfl]
    clear h
    go_enter Tryz.func52, Tryz.ntmps52
    go_wp2_with fail
    go_ret
    exact ⟨8, rfl, rfl, HN.out.next (Turn.refl _ _)⟩
  | false =>
    rw [if_neg (by simp)]
    have HO := ref_ops_told _ m L w hr hb
    have HA := Lib.hid (And.intro hw (And.intro hj (And.intro hK (And.intro hK2 (And.intro hn (And.intro hcap hb))))))
    clear h hr hw hj hK hK2 hn hcap hb
    cases hok : okOps L with
    | false =>
      rw [if_pos rfl]
      unfold errB bytesB at HO
      rw [if_neg (by simp [hok])] at HO
      clear HA
      go_enter Tryz.func52, Tryz.ntmps52
      go_wp2_with fail
      refine HO.mono ?_
      rintro e w1 ⟨ao1, m1, c1, rfl, h1, h2⟩
      have H2 := Lib.hid h2
      clear h1 h2 HO
      go_wp2_with fail
      go_ret
      have t2 := turn_below H2.out
      exact ⟨1, rfl, rfl, (HN.out.keep t2 (by simp) (by simp) (by simp)).next t2.nil_any⟩
    | true =>
      rw [if_neg (by simp)]
      unfold errB bytesB at HO
      rw [if_pos hok, if_pos hok] at HO
      obtain ⟨x, hx⟩ : ∃ x, x = frms (recs L) := ⟨_, rfl⟩
      have hx2 : x.length ≤ 110000 := by rw [hx]; exact recs_frms HA.out.2.2.2.2.2.2
      have hxK : x.length ≤ K := by rw [hx]; exact HA.out.2.2.2.1
      rw [← hx] at HO ⊢
      clear hx hok
      unfold commitA
      have HWA := Lib.hid (well_append HA.out.1 logK x hxK)
      obtain ⟨k1, hk1⟩ : ∃ k, k = (M.act (opAppend logK x)).1 := ⟨_, rfl⟩
      obtain ⟨M1, hM1⟩ : ∃ M', M' = (M.act (opAppend logK x)).2 := ⟨_, rfl⟩
      rw [← hk1, ← hM1]
      rw [← hM1] at HWA
      have HWB := Lib.hid (well_sync HWA.out logK)
      obtain ⟨k2, hk2⟩ : ∃ k, k = (M1.act (opSync logK)).1 := ⟨_, rfl⟩
      obtain ⟨M2, hM2⟩ : ∃ M', M' = (M1.act (opSync logK)).2 := ⟨_, rfl⟩
      rw [← hk2, ← hM2]
      rw [← hM2] at HWB
      have HK1 := Lib.hid hk1
      have HM1' := Lib.hid hM1
      have HK2 := Lib.hid hk2
      have HM2 := Lib.hid hM2
      clear hk1 hM1 hk2 hM2
      go_enter Tryz.func52, Tryz.ntmps52
      go_wp2_with fail
      refine HO.mono ?_
      rintro e w1 ⟨ao1, m1, c1, rfl, h1, h2⟩
      have t1 := turn_below h2
      have hm1 := h1.1
      have hRW := HN.out
      have H1 := Lib.hid (hRW.keep t1 (by simp) (by simp) (by simp))
      have c0 := wob_0 H1.out.2.2.2
      unfold theRef at c0
      have HL := well_limW HA.out.2.2.1 HA.out.1 (by have := HA.out.2.1; omega)
      have HAP := ref_append r M F G logS (.slice ao1 m1 c1) x w1 H1.out.1 HL HA.out.2.2.2.2.2.1 h1.reads (by omega) (fun _ a n' c' e hm => by
        have hlt := hRW.1.lt.1 _ hm
        have hown : (Value.slice ao1 m1 c1).ownBlock = some a.block := by rw [e]; rfl
        have := (h1.2.lt _ hown).1
        omega)
      rw [logS_list] at HAP
      unfold theRef logS RActed at HAP
      have HT1 := Lib.hid t1
      have HM1 := Lib.hid hm1
      clear h1 h2 HO t1 hm1 hRW HL c2
      rw [← HK1.out, ← HM1'.out] at HAP
      go_wp2_with fail
      refine HAP.mono ?_
      rintro e w2 ⟨k', rfl, rfl, hn⟩
      have H2 : Hid (RWNext w w2 r p M1 n false F G) := Lib.hid ((H1.out.disk hn).after HT1.out)
      clear hn HAP
      have HR2 : Hid True := Lib.hid trivial
      by_cases h0 : k' = 0
      case' pos =>
        obtain ⟨F1, G1, hRW, hr1, hr2, hr3⟩ := H2.out
        have c0 := wob_0 hRW.2.2.2
        unfold theRef at c0
        have HL := well_limW HA.out.2.2.1 HWA.out (by have := HA.out.2.1; omega)
        have HAP := ref_sync r M1 F1 G1 logS w2 hRW.1 HL
        rw [logS_list] at HAP
        unfold theRef logS RActed at HAP
        rw [← HK2.out, ← HM2.out] at HAP
        have HR2' := Lib.hid (And.intro hRW (And.intro hr1 (And.intro hr2 hr3)))
        clear hRW HL HWA hr1 hr2 hr3
        have h0' := h0
        subst h0'
        go_wp2_with fail
        refine HAP.mono ?_
        rintro e w3 ⟨k', rfl, rfl, hn⟩
        have H3 : Hid (RWNext w w3 r p M2 n false F G) := Lib.hid (RWNext.then' HR2'.out.1 HR2'.out.2.1 HR2'.out.2.2.1 HR2'.out.2.2.2 (HR2'.out.1.disk hn))
        clear hn HAP c0
        by_cases h2 : k' = 0
        case' pos =>
          obtain ⟨F1, G1, hRW, hr1, hr2, hr3⟩ := H3.out
          have c1 := wob_1 hRW.2.2.2
          have f1 := wob_free hRW.2.2.2 1
          clear hRW hr1 hr2 hr3 HWB
          have h2' := h2
          subst h2'
          go_wp2_with fail
          go_ret
          refine ⟨0, rfl, ?_⟩
          refine ⟨rfl, H3.out.then fun F1 G1 h1 => ?_⟩
          have := h1.set_n (n + m1)
          have hm1 := HM1.out
          have hn9 := HA.out.2.2.2.2.1
          have e : wrap64 ((n : Int) + (m1 : Int)) = ((n + m1 : Nat) : Int) := by rw [wrap64_id _ (by omega)]; omega
          rw [e]
          rw [← hm1]
          exact this
        have he := h2
        have HX : Hid (Well K M2 (j + 2)) := Lib.hid HWB.out
        have HR : Hid ((if (0 : Int) = 0 then if k' = 0 then (⟨0, M2, n + x.length, false⟩ : Wrote) else commitC M2 k' n else commitC M1 0 n) = commitC M2 k' n) := Lib.hid (by rw [if_pos rfl, if_neg h2])
        clear HWB h0 h2 HR2 HR2' H2 HK1 HM1' HK2 HM2 HT1 H1 HN
        obtain ⟨we, rfl⟩ : ∃ we, we = w3 := ⟨_, rfl⟩
        obtain ⟨ME, rfl⟩ : ∃ ME, ME = M2 := ⟨_, rfl⟩
      case' neg =>
        have he := h0
        have HX : Hid (Well K M1 (j + 2)) := Lib.hid (well_more HWA.out (by omega))
        have HR : Hid ((if k' = 0 then if k2 = 0 then (⟨0, M2, n + x.length, false⟩ : Wrote) else commitC M2 k2 n else commitC M1 k' n) = commitC M1 k' n) := Lib.hid (by rw [if_neg h0])
        have H3 := H2
        clear HWB HWA h0 HR2 H2 HK1 HM1' HK2 HM2 HT1 H1 HN
        obtain ⟨we, rfl⟩ : ∃ we, we = w2 := ⟨_, rfl⟩
        obtain ⟨ME, rfl⟩ : ∃ ME, ME = M1 := ⟨_, rfl⟩
      all_goals
        obtain ⟨F1, G1, hRW, hr1, hr2, hr3⟩ := H3.out
        have HRW := Lib.hid (And.intro hRW (And.intro hr1 (And.intro hr2 hr3)))
        have c0 := wob_0 hRW.2.2.2
        have c1 := wob_1 hRW.2.2.2
        have f2 := wob_free hRW.2.2.2 2
        have c2 := wob_2 hRW.2.2.2
        unfold theRef at c0
        clear hRW hr1 hr2 hr3
        by_cases h7 : k' = 7
        case' pos =>
          subst h7
          go_wp2_with fail
          go_ret
          refine ⟨7, rfl, ?_⟩
          unfold commitC
          rw [if_pos rfl]
          exact ⟨rfl, RWNext.then' HRW.out.1 HRW.out.2.1 HRW.out.2.2.1 HRW.out.2.2.2 (HRW.out.1.set_s true)⟩
        have HL := well_limW HA.out.2.2.1 HX.out HA.out.2.1
        have HC := ref_cut r ME F1 G1 logS n we.drew (HRW.out.1.1.keep (Turn.refl [] we).drew (by simp) (by simp)) HL
        rw [logS_list] at HC
        unfold theRef logS RActed at HC
        obtain ⟨kc, hkc⟩ : ∃ k, k = (ME.act (opCut logK n)).1 := ⟨_, rfl⟩
        obtain ⟨MC, hMC⟩ : ∃ M', M' = (ME.act (opCut logK n)).2 := ⟨_, rfl⟩
        rw [← hkc, ← hMC] at HC
        have HKC := Lib.hid (And.intro hkc hMC)
        have u0 : ∀ w' : World, w'.heap[p]? = we.drew.heap[p]? → w'.cell? ⟨p, 0, none⟩ = some (.pointer (some ⟨r, 0, none⟩)) := fun w' hg => (World.cell?_of_block (a := (⟨p, 0, none⟩ : Addr)) hg).trans c0
        have u1 : ∀ w' : World, w'.heap[p]? = we.drew.heap[p]? → w'.cell? ⟨p, 1, none⟩ = some (.int .i64 (n : Int)) := fun w' hg => (World.cell?_of_block (a := (⟨p, 1, none⟩ : Addr)) hg).trans c1
        clear HL hkc hMC c0 c1 c2 f2
        go_wp2_with fail
        refine wp_region_mgs (fun a c : World => c.heap[p]? = a.heap[p]?) (fun _ => rfl) (fun h k => k.trans h) 13 [(0, 9, true), (9, 1, false), (10, 1, true), (11, 1, false), (12, 1, true), (13, 1, false)] (by kernel_rfl) (by kernel_rfl) ?_
        simp only [mvAll, mvSeg, List.drop_succ_cons, List.drop_zero, List.cons_append, List.nil_append, Nat.reduceAdd]
        iterate 9
          refine wpLgs_still ?_ (fun w' hG K hK => ?_) (fun K hK => ?_)
          rotate_left
          · have d0 := u0 w' hG
            have d1 := u1 w' hG
            clear hG
            unfold mvVal
            go_simp
            try exact hK
          go_simp
          refine hK _ ?_
          clear hK K
        refine wpLgs_call (fun K hK => ?_)
        unfold mvRun
        go_simp
        simp only [mvUpon]
        refine HC.mono ?_
        rintro e wf ⟨k9, rfl, rfl, hn⟩
        refine ⟨_, rfl, ?_⟩
        go_simp
        have HF : Hid (RWNext we wf r p MC n false F1 G1) := Lib.hid (((HRW.out.1.keep (Turn.refl [] we).drew (by simp) (by simp) (by simp)).disk hn).after ((Turn.refl [] we).drew))
        have hp : wf.heap[p]? = we.drew.heap[p]? := by
          obtain ⟨F2, G2, q1, q2, q3, q4⟩ := hn
          exact q4.block p HRW.out.1.lt HRW.out.1.2.1
        refine hK _ _ hp ?_
        clear hK K hn HC u0 u1
        iterate 1
          refine wpLgs_still ?_ (fun w' hG K hK => ?_) (fun K hK => ?_)
          rotate_left
          · clear hG
            unfold mvVal
            go_simp
            try exact hK
          go_simp
          refine hK _ ?_
          clear hK K
        refine wpLgs_call (fun K hK => ?_)
        unfold mvRun
        go_simp
        simp only [mvUpon]
        refine hK _ _ rfl ?_
        clear hK K
        iterate 1
          refine wpLgs_still ?_ (fun w' hG K hK => ?_) (fun K hK => ?_)
          rotate_left
          · clear hG
            unfold mvVal
            go_simp
            try exact hK
          go_simp
          refine hK _ ?_
          clear hK K
        have c2 : wf.cell? ⟨p, 2, none⟩ = some (.bool false) := wob_2 HF.out.choose_spec.choose_spec.1.2.2.2
        have f2 : wf.frozen? ⟨p, 2, none⟩ = false := wob_free HF.out.choose_spec.choose_spec.1.2.2.2 2
        refine wpLgs_last (fun K hK => ?_)
        unfold mvRun
        go_simp
        simp only [mvUpon]
        refine hK _ _ ?_
        clear hK K
        refine wpLgs_nil ?_
        go_wp2_with fail
        go_ret
        refine ⟨k', rfl, ?_⟩
        unfold commitC
        rw [if_neg h7, ← HKC.out.1, ← HKC.out.2]
        have hd : (k9 != 0) = decide (k9 ≠ 0) := by by_cases h9 : k9 = 0 <;> simp [h9]
        refine ⟨rfl, RWNext.then' HRW.out.1 HRW.out.2.1 HRW.out.2.2.1 HRW.out.2.2.2 (HF.out.then fun F2 G2 h2 => ?_)⟩
        have := h2.set_s (k9 != 0)
        rw [hd] at this ⊢
        exact this
end Go.Proofs.YthcdkggkoanjpaaGreatDoor
namespace Go.Proofs.YthcdkggkoanjpaaGreatDoor
open Go.RowKit Go.Lib
def turn (l : List UInt8) (k : Nat) (bt : Bool) : List UInt8 := l.set (k / 8) ((l[k / 8]?).getD 0 ^^^ UInt8.ofNat (bt.toNat * 2 ^ (k % 8)))
end Go.Proofs.YthcdkggkoanjpaaGreatDoor
namespace Go.Proofs.YthcdkggkoanjpaaGreatDoor
open Go.RowKit Go.Lib
theorem elemOp : Elem 52 65 (.agg #[.bool false, .string ⟨#[]⟩, .string ⟨#[]⟩]) 3 40 := ⟨Tryz.underlying52, by kernel_rfl, by decide, by decide⟩
theorem elemOps : Elem 23 52 (.slice none 0 0) 1 24 := ⟨Tryz.underlying23, by kernel_rfl, by decide, by decide⟩
end Go.Proofs.YthcdkggkoanjpaaGreatDoor
