/-
  RefBefore: the walks of the document's own Before, Longest.
-/
import Derived.Test.YtdhehffdddbmbabRefShared
namespace Go.Proofs.Ytdhehffdddbmbab
open Go.RowKit

/-! ### Before and Longest -/

/-- The first k of the order have their neighbour laid down. -/
def BefTo (xs L bs : List Int) (k : Nat) : Prop := bs.length = xs.length ∧ ∀ i, i < k → bs[(L.getD i 0).toNat]? = some (beforeAt L i)
theorem BefTo.step {xs L bs : List Int} {k p : Nat} (hO : Ord xs L) (h : BefTo xs L bs k) (hk : k < xs.length) (hp : L.getD k 0 = p) : BefTo xs L (bs.set p (beforeAt L k)) (k + 1) := by
  obtain ⟨h1, h2⟩ := h
  have hpl := OrdTo.at hO hk
  refine ⟨by simpa using h1, fun i hi => ?_⟩
  rcases Nat.lt_or_ge i k with h | h
  · rw [List.getElem?_set_ne]
    · exact h2 i h
    · intro e
      have hi2 := OrdTo.at hO (i := i) (by omega)
      have := OrdTo.inj hO (i := i) (j := k) (by omega) hk (by omega)
      omega
  · obtain rfl : i = k := by omega
    rw [hp, Int.toNat_natCast, List.getElem?_set_self (by omega)]
theorem BefTo.done {xs L bs : List Int} {k : Nat} (hO : Ord xs L) (h : BefTo xs L bs k) (hk : xs.length ≤ k) : IsBefore xs L bs :=
  ⟨h.1, fun i hi => h.2 i (by rw [OrdTo.length hO] at hi; omega)⟩

/-- P11: Longest, out of Before. -/
def longAt (xs bs : List Int) (i : Nat) : Int := if 0 ≤ bs.getD i 0 then cm xs (bs.getD i 0).toNat i else 0
def longest (xs bs : List Int) : List Int := (List.range xs.length).map (longAt xs bs)

theorem IsBefore.range {xs L bs : List Int} (hO : Ord xs L) (h : IsBefore xs L bs) {p : Nat} (hp : p < xs.length) : -1 ≤ bs.getD p 0 ∧ bs.getD p 0 < xs.length := by
  obtain ⟨i, hi, he⟩ := OrdTo.place hO hp
  have h1 := h.2 i (by rw [OrdTo.length hO]; exact hi)
  rw [he, Int.toNat_natCast] at h1
  rw [List.getD, h1, Option.getD_some]
  unfold beforeAt
  split
  · omega
  · have := OrdTo.at hO (i := i - 1) (by omega)
    omega

end Go.Proofs.Ytdhehffdddbmbab
