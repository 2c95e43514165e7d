/- Read, of a file that is there. Numbers and types by name. -/
import Derived.Test.YtloccomlnnndoaaSyn
namespace Go.Proofs.Ytloccomlnnndoaa
open Go.RowKit Go.Maps Go.Sort Go.WideMaps

theorem FileAt.reads {w : World} {base : Nat} {f : FM} (h : FileAt w base f) : ∃ v, FileC w f.blk v f.sy ∧ Reads w v (bv f.bytes) := by
  obtain ⟨ao, c, h1, h2, _⟩ := h
  exact ⟨_, h1, Reads.own (by simpa [bv_length] using h2)⟩

theorem read_ok (base b : Nat) (S : DM) (s : DS) (name : ByteArray) (f : FM) (w : World) (hR : Rep w base b S s) (hdw : S.dw = false) (hf : S.files.find? (named name.data.toList) = some f) (hl : name.size ≤ maxLen) (hbytes : f.bytes.length < 1000000000) :
    Calls Try.prog 24 #[theDisk b, .string name] w fun e w' => ∃ ao c, e = .returned (.tuple #[.slice ao f.bytes.length c, .int .i64 0]) ∧ w'.ownsRow w.heap.size 5 1 (.slice ao f.bytes.length c) f.bytes.length (bv f.bytes) ∧ w.grownBy w' none := by
  obtain ⟨hmem, hnm⟩ := find_mem hf
  obtain ⟨v, hfc, hr⟩ := (hR.files f hmem).reads
  have c8 := hR.disk.c8
  rw [hR.dw, hdw] at c8
  have c5 := hR.disk.c5
  have f0 := hfc.c0
  have hlk : (Instr.lookup 63 s.fs (.string name) false).run Try.prog w = .ok (.pointer (some ⟨f.blk, 0, none⟩)) w := by
    rw [hR.look name hl]; simp [ptrOf, hf]
  have hcp := copied_byte v f.bytes w hr (by omega)
  have hsh : ∃ aov nv cv, v = .slice aov nv cv := by obtain ⟨aov, cv, rfl, _⟩ := hr; exact ⟨_, _, _, rfl⟩
  obtain ⟨aov, nv, cv, rfl⟩ := hsh
  clear hR hdw hf hl hbytes hmem hnm hfc hr
  unfold theDisk
  go_enter Try.func24, Try.ntmps24
  go_wp2_with fail
  refine hcp.mono ?_
  rintro e w' ⟨ao, c, rfl, h1, h2⟩
  go_wp2
  go_ret2
  exact ⟨ao, c, rfl, h1, h2⟩

end Go.Proofs.Ytloccomlnnndoaa
