/- 'drop'. Numbers and types by name. -/
import Derived.Test.YtloccomlnnndoaaDel
namespace Go.Proofs.Ytloccomlnnndoaa
open Go.RowKit Go.Maps Go.Sort Go.WideMaps

theorem drop_none (base b : Nat) (S : DM) (s : DS) (name : ByteArray) (w : World) (hR : Rep w base b S s) (hf : S.files.find? (named name.data.toList) = none) (hl : name.size ≤ maxLen) :
    Calls Try.prog 49 #[theDisk b, .string name] w fun e w' => e = .returned (.tuple #[]) ∧ Turn [] w w' := by
  have c5 := hR.disk.c5
  have hlk : ∀ n, (Instr.lookup 63 s.fs (.string name) false).run Try.prog (w.drewN n) = .ok (.pointer none) (w.drewN n) := by
    intro n
    have := (hR.new ((Turn.refl [] w).drewN n)).look name hl
    rw [this]; simp [ptrOf, hf]
  have hlk0 : (Instr.lookup 63 s.fs (.string name) false).run Try.prog w = .ok (.pointer none) w := hlk 0
  unfold theDisk
  clear hR hf hl
  go_enter Try.func49, Try.ntmps49
  go_wp2
  go_end0
  exact ⟨rfl, Turn.refl [] w⟩

set_option maxRecDepth 100000 in
theorem drop_some (base b : Nat) (S : DM) (s : DS) (name : ByteArray) (f : FM) (w : World) (hR : Rep w base b S s) (hf : S.files.find? (named name.data.toList) = some f) (hl : name.size ≤ maxLen) (hsz : s.sz = total S.files) (hs1 : total S.files < 1000000000) (hbase : base ≤ w.heap.size) :
    Calls Try.prog 49 #[theDisk b, .string name] w fun e w' => e = .returned (.tuple #[]) ∧ ∃ s', Rep w' base b { S with files := without name.data.toList S.files } s' ∧ s'.sz = total (without name.data.toList S.files) ∧ Turn (foot b S) w w' := by
  obtain ⟨hmem, hnm⟩ := find_mem hf
  obtain ⟨m, hm⟩ : ∃ m, S.mp = some m := by
    cases e : S.mp with
    | none => rw [hR.mapN e] at hmem; cases hmem
    | some m => exact ⟨m, rfl⟩
  obtain ⟨ao, c, hfc, hown, hrow, hsy⟩ := (hR.files f hmem).own
  obtain ⟨hbf, hmf, hnd⟩ := hR.apart2 f hmem
  have hblk : f.blk ∈ f.foot := by simp [FM.foot]
  have hsub : f.blk ∈ foot b S := by simp only [foot, List.mem_cons, List.mem_append, List.mem_flatMap]; exact .inr (.inr ⟨f, hmem, hblk⟩)
  have hmS : m ∈ foot b S := by simp [foot, hm]
  have hbb : b ≠ f.blk := fun e => hbf (e ▸ hblk)
  have hlk : ∀ n, (Instr.lookup 63 s.fs (.string name) false).run Try.prog (w.drewN n) = .ok (.pointer (some ⟨f.blk, 0, none⟩)) (w.drewN n) := by
    intro n
    have := (hR.new ((Turn.refl [] w).drewN n)).look name hl
    rw [this]; simp [ptrOf, hf]
  have hlk0 : (Instr.lookup 63 s.fs (.string name) false).run Try.prog w = .ok (.pointer (some ⟨f.blk, 0, none⟩)) w := hlk 0
  have hft := le_total hmem
  have hcp := owns_cap hown
  have HS := Lib.hid (shorten_any b f.blk s ao f.bytes.length c f.sy 0 w hR.disk hfc (Nat.zero_le _) hcp.1 hcp.2 hbb (by omega) (by omega))
  have HC := Lib.hid (fun (w2 : World) (hd2 : DiskC w2 b { s with sz := s.sz - (f.bytes.length - (0 : Nat)) }) (hf2 : FileC w2 f.blk (.slice ao 0 c) (min (f.sy : Int) (0 : Nat))) (t2 : Turn [b, f.blk] w w2) =>
    cut_rep hR hsz f (by rw [hnm]; exact hf) 0 (Nat.zero_le _) ao c hown hrow hsy t2 hd2 hf2 hbase)
  have c5 := hR.disk.c5
  have hkey := keyOf_string_mk Try.underlying9 hl
  have HM := Lib.hid (And.intro hm (And.intro hmS (And.intro hsub (And.intro hnm (And.intro hR.names hf)))))
  unfold theDisk
  clear hR hfc hown hrow hsy hbf hmf hnd hblk hbb hft hcp hf hmem hnm hsub hsz hs1 hbase hm hmS hl
  go_enter Try.func49, Try.ntmps49
  go_wp2_with fail
  refine HS.out.mono ?_
  rintro e w2 ⟨rfl, hd2, hf2, t2⟩
  have hR2 := HC.out w2 hd2 hf2 ⟨t2.os, t2.tape, t2.output, t2.size, t2.block⟩
  obtain ⟨D, hown2, h1, h2, h3⟩ := hR2.mapS m HM.out.1
  have d5 := hR2.disk.c5
  rw [hR2.fs] at d5
  rw [show ({ S with files := mapF f.name (cutTo 0) S.files } : DM).mp = some m from HM.out.1] at d5
  have HR2 := Lib.hid (And.intro hR2 (And.intro h1 (And.intro h2 h3)))
  have HT2 : Hid (Turn (foot b S) w w2) := Lib.hid ⟨t2.os, t2.tape, t2.output, t2.size, fun k hk hne => t2.block k hk (by simp; exact ⟨fun e => hne (by simp [foot, e]), fun e => hne (e ▸ HM.out.2.2.1)⟩)⟩
  clear HS HC hd2 hf2 t2 c5 hlk hlk0 hR2 h1 h2 h3
  go_wp2_with (at_delete; refine wpList_delete_own _ rfl _ _ 63 9 rfl 74 law Try.underlying63 Rp m _ D rfl hown2 _ _ rfl hkey ?_; intro w3 hown3 hturn3)
  obtain ⟨hR2, h1, h2, h3⟩ := HR2.out
  obtain ⟨hm, hmS, hsub, hnm, hnames, hf⟩ := HM.out
  have t3 : Turn [m] w2 w3 := Turn.of_grown hturn3.grown (by intro k e; cases e; simp)
  have hM3 : MapAt w3 m (without name.data.toList (mapF f.name (cutTo 0) S.files)) := MapAt.del _ (by rw [mapF_names f.name (cutTo 0) (fun _ => rfl)]; exact hnames) h1 h2 h3 (hown2.tidy law) hown3
  have hR3 := hR2.without name.data.toList m hm t3 hM3
  have e1 : without name.data.toList (mapF f.name (cutTo 0) S.files) = without name.data.toList S.files := by
    rw [hnm]; exact without_mapF name.data.toList (cutTo 0) (fun _ => rfl) S.files
  have e2 := total_mapF f.name (cutTo 0) S.files f (by rw [hnm]; exact hf) hnames
  have e3 := total_without name.data.toList S.files f hf hnames
  have e4 : total (mapF f.name (cutTo 0) S.files) = total (without name.data.toList S.files) := by
    simp [cutTo] at e2; omega
  simp only [e1] at hR3
  rw [e4] at hR3
  have HE := Lib.hid (And.intro hR3 (HT2.out.trans (t3.mono (by intro x hx; simp at hx; subst hx; exact hmS))))
  clear HR2 HM hown2 hown3 hturn3 h1 h2 h3 hR2 hM3 e1 e2 e3 e4 HT2 hR3 t3 hkey hmS hsub hnm hnames hf d5
  go_end0
  exact ⟨rfl, _, HE.out.1, rfl, HE.out.2⟩

end Go.Proofs.Ytloccomlnnndoaa
