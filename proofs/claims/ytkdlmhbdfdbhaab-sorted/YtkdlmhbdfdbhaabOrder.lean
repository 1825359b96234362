/-
  Order: P6: the walks of CheckOrder, of the program and of the document's answer.
-/
import Derived.Test.YtkdlmhbdfdbhaabScan
import Derived.Test.YtkdlmhbdfdbhaabLent
import Derived.Test.YtkdlmhbdfdbhaabLess
import Derived.Test.YtkdlmhbdfdbhaabMOrder
import Derived.Test.YtkdlmhbdfdbhaabDense
namespace Go.Proofs.Ytkdlmhbdfdbhaab
open Go.RowKit

/-- Is no number below 0? -/
def from0 (xs : List Int) : Bool := xs.all (fun x => decide (0 ≤ x))
theorem from0_iff (xs : List Int) : from0 xs = true ↔ ∀ x ∈ xs, 0 ≤ x := by simp [from0]
theorem from0_no {xs : List Int} {n : Nat} (h : n < xs.length) (h2 : xs[n] < 0) : from0 xs = false := by
  cases e : from0 xs with
  | false => rfl
  | true => have := (from0_iff xs).1 e xs[n] (List.getElem_mem h); omega
theorem from0_step {xs : List Int} {n : Nat} (h : n < xs.length) (hp : ∀ x ∈ xs.take n, 0 ≤ x) (h2 : ¬ xs[n] < 0) : ∀ x ∈ xs.take (n + 1), 0 ≤ x := by
  intro x hx
  rw [take_snoc h] at hx
  rcases List.mem_append.1 hx with h1 | h1
  · exact hp x h1
  · simp at h1; subst h1; omega

theorem lesser_len (a a' : Option Addr) (len len' cap cap' : Nat) (xs ys : List Int) (w : World) (hr : Rd w a xs) (hr' : Rd w a' ys) (hl : xs.length ≤ 1073741824) (h : xs.length = len) (h' : ys.length = len') (v : Bool) (hv : lt xs ys = v) :
    Calls Try.prog 25 #[.slice a len cap, .slice a' len' cap'] w fun e w' => e = .returned (.bool v) ∧ ∃ q, w' = w.drewN q := by
  subst h; subst h'; subst hv; exact lesser_any a a' cap cap' xs ys w hr hr' hl

theorem firstOut_in {xs : List Int} {k : Int} (h : ¬ firstOut xs k < xs.length) : ∀ x ∈ xs, 0 ≤ x ∧ x < k := by
  intro x hx
  obtain ⟨i, hi, rfl⟩ := List.getElem_of_mem hx
  have hlt : i < List.findIdx (fun x => decide (x < 0) || decide (k ≤ x)) xs := by unfold firstOut at h; omega
  have := List.not_of_lt_findIdx hlt
  simp at this
  omega
theorem firstOut_out {xs : List Int} {k : Int} (h : firstOut xs k < xs.length) : ∃ x ∈ xs, ¬ (0 ≤ x ∧ x < k) := by
  refine ⟨xs[firstOut xs k], List.getElem_mem h, ?_⟩
  have := List.findIdx_getElem (w := h)
  simp at this
  unfold firstOut
  omega

/-- A call that tells whether P holds, and only reads. -/
def Tells (w : World) (P : Prop) (e : Ending) (w' : World) : Prop := ∃ b : Bool, e = .returned (.bool b) ∧ (b = true ↔ P) ∧ ∃ q, w' = w.drewN q
theorem Tells.no {w w' : World} {P : Prop} {q : Nat} (h : ¬ P) (hw : w' = w.drewN q) : Tells w P (.returned (.bool false)) w' := ⟨false, rfl, by simp [h], q, hw⟩
theorem Tells.yes {w w' : World} {P : Prop} {q : Nat} (h : P) (hw : w' = w.drewN q) : Tells w P (.returned (.bool true)) w' := ⟨true, rfl, by simp [h], q, hw⟩

/-- What IsOrder tells. -/
def Told (xs os : List Int) : Prop := xs.length ≤ 96 ∧ (∀ x ∈ xs, 0 ≤ x) ∧ Ord xs os

end Go.Proofs.Ytkdlmhbdfdbhaab
