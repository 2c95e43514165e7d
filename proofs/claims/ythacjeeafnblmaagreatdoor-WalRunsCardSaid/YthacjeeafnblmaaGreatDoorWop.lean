/- Both logs opened, whatever comes of it. Numbers and types by name. -/
import Derived.Test.YthacjeeafnblmaaGreatDoorDuo
namespace Go.Proofs.YthacjeeafnblmaaGreatDoor
open Go.RowKit Go.Lib

/-- Behind the code's Open: none, or its log, beside the reference's disk. -/
def HalfE (X : Nat → Prop) (w : World) (base b r : Nat) (aw : Option Addr) (v : Value) (jn : Nat) (O : Opened) (M2 : MD) : Prop :=
  (O.e ≠ 0 ∧ aw = none ∧ v = .slice none 0 0 ∧ jn = 0 ∧ Both X w base b r O.M M2) ∨
  (O.e = 0 ∧ ∃ q lo hi, aw = some ⟨q, 0, none⟩ ∧ Half (fun k => X k ∨ lo ≤ k ∧ k < hi) w base b r q O.M O.n false M2 ∧ ObsB w lo hi v jn O.l)
/-- Behind both. -/
def EndE (X : Nat → Prop) (w : World) (base b r : Nat) (aw av : Option Addr) (O : Opened) : Prop :=
  (aw = none ∧ av = none ∧ Both X w base b r O.M O.M) ∨
  ∃ q p, aw = some ⟨q, 0, none⟩ ∧ av = some ⟨p, 0, none⟩ ∧ DuoW X w base b r q p O.M O.n false O.M O.n false

theorem EndE.same {X : Nat → Prop} {w : World} {base b r : Nat} {aw av : Option Addr} {O : Opened} (h : EndE X w base b r aw av O) : aw.isNone = av.isNone := by
  rcases h with ⟨rfl, rfl, _⟩ | ⟨q, p, rfl, rfl, _⟩ <;> rfl

theorem duo_opens {X : Nat → Prop} {w : World} {base b r : Nat} {M M2 : MD} (h : Both X w base b r M M2) (ht : TabAt base w) {K J j : Nat} (hw : Well K M j) (hj : j + 3 ≤ J) (hR : Room K J) :
    Calls Tryz.prog 11 #[theDisk b] w fun e w' => ∃ aw ao jn c, e = .returned (.tuple #[.pointer aw, .slice ao jn c, .int .i64 (openP M).e]) ∧ HalfE X w' base b r aw (.slice ao jn c) jn (openP M) M2 ∧ Stays X w w' := by
  refine (duo_open_code h ht hw hj hR).mono ?_
  rintro e w' (⟨he, rfl, hb, hs⟩ | ⟨he, q, ao, jn, c, lo, hi, rfl, hh, ho, hs⟩)
  · exact ⟨none, none, 0, 0, rfl, .inl ⟨he, rfl, rfl, rfl, hb⟩, hs⟩
  · exact ⟨some ⟨q, 0, none⟩, ao, jn, c, by rw [he], .inr ⟨he, q, lo, hi, rfl, hh, ho⟩, hs⟩

theorem duo_opens_ref {X : Nat → Prop} {w : World} {base b r : Nat} {aw : Option Addr} {v : Value} {jn : Nat} {M : MD} (h : HalfE X w base b r aw v jn (openP M) M) {K J j : Nat} (hw : Well K M j) (hj : j + 3 ≤ J) (hR : Room K J) :
    Calls Tryz.prog 12 #[theRef r] w fun e w' => ∃ av ao' jn' c', e = .returned (.tuple #[.pointer av, .slice ao' jn' c', .int .i64 (openP M).e]) ∧ EndE X w' base b r aw av (openP M) ∧ (∃ L, Obs w' v jn L ∧ Obs w' (.slice ao' jn' c') jn' L) ∧ Stays X w w' := by
  rcases h with ⟨he, rfl, rfl, rfl, hb⟩ | ⟨he, q, lo, hi, rfl, hh, ho⟩
  · refine (both_open_ref hb hw hj hR he).mono ?_
    rintro e w' ⟨rfl, hb', hs⟩
    exact ⟨none, none, 0, 0, rfl, .inl ⟨rfl, rfl, hb'⟩, ⟨[], Obs.nil w', Obs.nil w'⟩, hs⟩
  · refine (duo_open_ref hh hw hj hR he).mono ?_
    rintro e w' ⟨p, ao, jn', c, lo', hi', rfl, hd, ho', hs⟩
    refine ⟨some ⟨p, 0, none⟩, ao, jn', c, by rw [he], .inr ⟨q, p, rfl, rfl, hd.less fun k hk => .inl (.inl hk)⟩, ⟨_, (ho.stays hs fun k h1 h2 => .inr ⟨h1, h2⟩).obs, ho'.obs⟩, hs.less fun k hk => .inl hk⟩

end Go.Proofs.YthacjeeafnblmaaGreatDoor
