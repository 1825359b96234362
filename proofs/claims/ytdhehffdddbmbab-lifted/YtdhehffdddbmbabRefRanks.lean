/-
  RefRanks: the walks of the document's own Ranks, different, Rounds.
-/
import Derived.Test.YtdhehffdddbmbabRefOrder
import Derived.Test.YtdhehffdddbmbabMBase
namespace Go.Proofs.Ytdhehffdddbmbab
open Go.RowKit

theorem ret_slice {A : Option Addr} {n m c : Nat} (h : n = m) : Ending.returned (.slice A n c) = .returned (.slice A m c) := by rw [h]

theorem fst_length (xs : List Int) (i h : Nat) : (fst xs i h).length = min h (xs.length - i) := by simp [fst]

/-- How many of the first j places have lesser beginnings. -/
def rkTo (xs : List Int) (h i j : Nat) : Nat := (List.range j).countP (fun k => lt (fst xs k h) (fst xs i h))
theorem rkTo_yes {xs : List Int} {h i j : Nat} (e : lt (fst xs j h) (fst xs i h) = true) : rkTo xs h i (j + 1) = rkTo xs h i j + 1 := by
  unfold rkTo; rw [countP_range_succ, if_pos e]
theorem rkTo_no {xs : List Int} {h i j : Nat} (e : lt (fst xs j h) (fst xs i h) = false) : rkTo xs h i (j + 1) = rkTo xs h i j := by
  unfold rkTo; rw [countP_range_succ, if_neg (by rw [e]; simp)]; rfl
theorem rkTo_le (xs : List Int) (h i j : Nat) : rkTo xs h i j ≤ j := countP_range_le _ _
theorem rkTo_all (xs : List Int) (h i : Nat) : rkTo xs h i xs.length = rk xs h i := rfl
theorem fst_le (xs : List Int) (i h : Nat) : (fst xs i h).length ≤ xs.length := by rw [fst_length]; omega

/-- Are all numbers of a list different? -/
def diff (l : List Int) : Bool := decide l.Nodup
theorem diff_no {l : List Int} {n : Nat} (h : n < l.length) (hm : l[n] ∈ l.take n) : diff l = false := by
  unfold diff
  refine decide_eq_false (fun hd => ?_)
  obtain ⟨i, hi, he⟩ := List.getElem_of_mem hm
  simp at hi he
  exact List.pairwise_iff_getElem.1 hd i n (by omega) h (by omega) he
theorem diff_step {l : List Int} {n : Nat} (h : n < l.length) (hd : (l.take n).Nodup) (hm : ¬ l[n] ∈ l.take n) : (l.take (n + 1)).Nodup := by
  rw [take_snoc h]
  refine List.pairwise_append.2 ⟨hd, List.pairwise_singleton _ _, ?_⟩
  intro a ha b hb
  rw [List.mem_singleton] at hb
  subst hb
  exact fun e => hm (e ▸ ha)

theorem diff_ranks {xs : List Int} {h : Nat} (hh : xs.length ≤ h) : diff (ranks xs h) = true := by
  refine decide_eq_true ?_
  refine List.pairwise_iff_getElem.2 (fun i j hi hj hij he => ?_)
  simp [ranks] at hi hj he
  have := (rk_eq_iff (xs := xs) (h := h) hj hi).1 (by omega)
  rw [fst_whole (by omega), fst_whole (by omega)] at this
  have := congrArg List.length this
  simp at this
  omega

/-- P10, from r on: the least number of rounds; -1, if there is none below 8. -/
def roundsFrom (xs : List Int) : Nat → Nat → Int
  | 0, _ => -1
  | k + 1, r => if diff (ranks xs (2 ^ r)) = true then r else roundsFrom xs k (r + 1)
def rounds (xs : List Int) : Int := roundsFrom xs 8 0

end Go.Proofs.Ytdhehffdddbmbab
