/-
  Kinds: P5: the walks of Kinds, of the program and of the document's answer.
-/
import Derived.Test.YtanbfnckelanjabScan
import Derived.Test.YtanbfnckelanjabLent
import Derived.Test.YtanbfnckelanjabLess
import Derived.Test.YtanbfnckelanjabMKinds
import Derived.Laws.BytesArg
namespace Go.Proofs.Ytanbfnckelanjab
open Go.RowKit

/-- A row of bytes of the call's own. -/
abbrev OwnB (w : World) (g : Nat) (ks : List Int) : Prop := OwnV w g 5 (ks.map (Value.int .u8))
theorem OwnB.at {w : World} {g : Nat} {ks : List Int} (h : OwnB w g ks) {i : Nat} {x : Int} (hi : ks[i]? = some x) : w.cell? ⟨g, i, none⟩ = some (.int .u8 x) := by
  have hl : i < ks.length := (List.getElem?_eq_some_iff.1 hi).1
  rw [h.cell (i := i) (by simpa using hl)]
  have : ks[i] = x := (List.getElem?_eq_some_iff.1 hi).2
  simp [this]
theorem OwnB.put {w : World} {g : Nat} {ks : List Int} (h : OwnB w g ks) (i : Nat) (x : Int) : OwnB (w.setCell ⟨g, i, none⟩ (.int .u8 x)) g (ks.set i x) := by
  have := h.set i (.int .u8 x)
  rwa [← List.map_set] at this

theorem made_bytes {w w0 : World} {n : Nat} (h : w0.ownsRow w.heap.size 5 1 (.slice (some ⟨w.heap.size, 0, none⟩) n n) n (madeCells #[Value.int .u8 0] n).toList) (hg : w.grownBy w0 none) :
    OwnB w0 w.heap.size (List.replicate n 0) ∧ Below w.heap.size w w0 ∧ w.heap.size < w0.heap.size := by
  rw [toList_madeCells_one] at h
  have ho : OwnB w0 w.heap.size (List.replicate n 0) := by
    obtain ⟨hl, h2⟩ := h
    rcases h2 with ⟨hv, _⟩ | ⟨g', cap, cur, hv, _, hh, _, _, hsz, ht⟩
    · cases hv
    · cases hv
      simp at hsz ht hl
      unfold OwnB OwnV
      rw [hh]
      rw [List.take_of_length_le (by simp; omega)] at ht
      congr 1
      rw [List.map_replicate, ← ht]
  exact ⟨ho, (Below.refl _ _).grown hg (Nat.le_refl _) (fun k h => by cases h), ho.lt⟩

theorem Try.info5 : (Try.prog.info? 5).map (fun i => (i.zero, i.size, i.bytes)) = some (some (.int .u8 0), 1, 1) := by kernel_rfl

end Go.Proofs.Ytanbfnckelanjab
