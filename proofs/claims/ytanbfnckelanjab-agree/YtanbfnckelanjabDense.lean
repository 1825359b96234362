/-
  Dense: the walks of Dense and Buckets, of the program and of the document's answer.
-/
import Derived.Test.YtanbfnckelanjabScan
import Derived.Test.YtanbfnckelanjabMine
import Derived.Test.YtanbfnckelanjabMDense
namespace Go.Proofs.Ytanbfnckelanjab
open Go.RowKit

theorem cl_step {xs : List Int} {n : Nat} (h : n < xs.length) (v : Int) : cl (xs.take (n + 1)) v = cl (xs.take n) v + if xs[n] < v then 1 else 0 := by
  rw [take_snoc h, cl_snoc]
theorem lab_step {xs : List Int} {n : Nat} (h : n < xs.length) (f : Int) : labTo (xs.take (n + 1)) f = if f < xs[n] ∧ (labTo (xs.take n) f < 0 ∨ xs[n] < labTo (xs.take n) f) then xs[n] else labTo (xs.take n) f := by
  rw [take_snoc h, labTo_snoc]
theorem cl_take_le (xs : List Int) (n : Nat) (v : Int) : cl (xs.take n) v ≤ n := Nat.le_trans (cl_le _ _) (List.length_take_le _ _)

/-- The length of a slice value: for measures. -/
def slLen : Value → Nat | .slice _ n _ => n | _ => 0

theorem rd_of_owns {w : World} {B g n cap : Nat} {l : List Int} (h : w.ownsRow B 3 1 (.slice (some ⟨g, 0, none⟩) n cap) n (l.map (Value.int .i64))) : Rd w (some ⟨g, 0, none⟩) l := by
  intro hl
  have hc := h.cells (g := g) rfl
  have hlt : g < w.heap.size := by
    rcases h.2 with ⟨hv, _⟩ | ⟨g', cap', cur, hv, _, hg, _⟩
    · cases hv
    · cases hv; exact (Array.getElem?_eq_some_iff.1 hg).1
  refine ⟨g, 0, rfl, hlt, fun i hi => ?_⟩
  have := hc i (.int .i64 l[i]) (by simp [hi])
  rw [show (⟨g, 0, none⟩ : Addr).add i = ⟨g, 0 + i, none⟩ by unfold Addr.add; split <;> simp_all] at this
  rw [this]
  simp [List.getD, hi]

/-- What a call made: blocks from B on; 'g' is the row of its answer. -/
theorem dense_step {f : Int → Int} {xs ds : List Int} {n : Nat} (hn : n < xs.length) (hd : ds.length = xs.length) (h : ds.take n = (xs.take n).map f) : (ds.set n (f xs[n])).take (n + 1) = (xs.take (n + 1)).map f := by
  rw [List.take_succ_eq_append_getElem (by simp; omega), take_snoc hn, List.map_append, ← h]
  simp [List.take_set_of_le]

/-- What a text without fault is. -/
theorem scan_zero {xs : List Int} {k : Int} (h : scanE xs k = 0) : xs.length ≤ 96 ∧ (∀ x ∈ xs, 0 ≤ x) ∧ ∀ x ∈ xs, x < k := by
  unfold scanE at h
  by_cases h1 : k < 1
  · simp [h1] at h
  · by_cases h2 : 96 < xs.length
    · simp [h1, h2] at h
    · by_cases h3 : firstOut xs k < xs.length
      · simp [h1, h2, h3] at h
      · have ha : ∀ x ∈ xs, 0 ≤ x ∧ x < k := by
          intro x hx
          obtain ⟨i, hi, rfl⟩ := List.getElem_of_mem hx
          have hlt : i < List.findIdx (fun x => decide (x < 0) || decide (k ≤ x)) xs := by unfold firstOut at h3; omega
          have := List.not_of_lt_findIdx hlt
          simp at this
          omega
        exact ⟨by omega, fun x hx => (ha x hx).1, fun x hx => (ha x hx).2⟩

end Go.Proofs.Ytanbfnckelanjab
