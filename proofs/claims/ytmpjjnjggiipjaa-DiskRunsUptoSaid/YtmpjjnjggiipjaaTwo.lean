/- Files and Calls of disks of one file; bytes that came in. Numbers and types by name. -/
import Derived.Test.YtmpjjnjggiipjaaFls
namespace Go.Proofs.Ytmpjjnjggiipjaa
open Go.RowKit Go.Maps Go.Sort Go.WideMaps

theorem calls_rep (base b : Nat) (S : DM) (s : DS) (w : World) (hR : Rep w base b S s) :
    Calls Try.prog 10 #[theDisk b] w fun e w' => e = .returned (.int .i64 S.ca) ∧ w = w' := by
  have c7 := hR.disk.c7
  rw [hR.ca] at c7
  clear hR
  unfold theDisk
  go_enter Try.func10, Try.ntmps10
  go_wp2
  go_ret
  exact ⟨rfl, rfl⟩

theorem calls_one (base b : Nat) (nm l : List UInt8) (sy : Nat) (cap ca : Int) (keep : List Int) (w : World) (h : One w base b nm l sy cap ca keep) :
    Calls Try.prog 10 #[theDisk b] w fun e w' => e = .returned (.int .i64 ca) ∧ w = w' := by
  obtain ⟨h0, S, s, f, hR, hs, hf, hn, hb, hsy, hc⟩ := h
  have := calls_rep base b S s w hR
  rw [hc.ca] at this
  exact this

/-- Of a disk of one file just that one is told. -/
theorem files_one (base b : Nat) (nm l : List UInt8) (sy : Nat) (cap ca : Int) (keep : List Int) (w : World) (h : One w base b nm l sy cap ca keep) (hl : nm.length ≤ maxLen) (hlen : l.length < 1000000000) :
    Calls Try.prog 31 #[theDisk b] w fun e w' => ∃ g c aob cb, e = .returned (.slice (some ⟨g, 0, none⟩) 1 c) ∧ w.heap.size ≤ g ∧ w'.cell? ⟨g, 0, none⟩ = some (encStr nm) ∧ w'.cell? ⟨g, 1, none⟩ = some (.slice aob l.length cb) ∧ w'.cell? ⟨g, 2, none⟩ = some (.int .i64 sy) ∧
      w'.ownsRow w.heap.size 5 1 (.slice aob l.length cb) l.length (bv l) ∧ w.grownBy w' none := by
  obtain ⟨h0, S, s, f, hR, hs, hf, hn, hb, hsy2, hc⟩ := h
  have ht : total S.files = l.length := by simp [total, hf, hb]
  have hsn : sortedNames S.files = [nm] := by simp [sortedNames, hf, hn]
  refine (files_any base b S s w hR (by omega) (by simp [hf]) (by simp [hf, hn, hl])).mono ?_
  rintro e w' ⟨ao, c, xs, rfl, hown, ⟨hxl, hx⟩, hg⟩
  have hfo : (sortedNames S.files).map (fileOf S.files) = [f] := by
    rw [hsn, hf]; simp [fileOf, named, hn]
  rw [hfo] at hx hxl
  have h1 : S.files.length = 1 := by simp [hf]
  rw [h1] at hown ⊢
  obtain ⟨aob, cb, x0, x1, x2, hbo, _⟩ := hx 0 f rfl
  obtain ⟨g, cap', hv, hge, hglt⟩ := hown.form (by omega)
  simp only [Value.slice.injEq] at hv
  obtain ⟨rfl, _, rfl⟩ := hv
  rw [hb] at x1 hbo
  rw [hn] at x0
  rw [hsy2] at x2
  exact ⟨g, c, aob, cb, rfl, hge, (hown.cellAt 0 (by omega)).trans x0, (hown.cellAt 1 (by omega)).trans x1, (hown.cellAt 2 (by omega)).trans x2, hbo, hg⟩

end Go.Proofs.Ytmpjjnjggiipjaa
