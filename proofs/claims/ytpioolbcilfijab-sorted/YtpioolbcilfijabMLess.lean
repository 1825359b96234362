/-
  MLess: plain mathematics: lists compared from the left on. Nothing of the program.
-/
namespace Go.Proofs.Ytpioolbcilfijab

/-- Is the list xs lesser than ys? -/
def lt : List Int → List Int → Bool
  | [], [] => false
  | [], _ :: _ => true
  | _ :: _, [] => false
  | x :: r, y :: s => if x = y then lt r s else decide (x < y)

theorem lt_nil (ys : List Int) : lt [] ys = decide (0 < ys.length) := by cases ys <;> simp [lt]
theorem lt_to_nil (xs : List Int) : lt xs [] = false := by cases xs <;> simp [lt]
theorem lt_cons (x y : Int) (r s : List Int) : lt (x :: r) (y :: s) = if x = y then lt r s else decide (x < y) := by rw [lt]
theorem lt_irrefl : ∀ xs : List Int, lt xs xs = false
  | [] => rfl
  | x :: r => by rw [lt_cons, if_pos rfl, lt_irrefl r]

theorem lt_step {xs ys : List Int} {n : Nat} (hx : n < xs.length) (hy : n < ys.length) : lt (xs.drop n) (ys.drop n) = if xs[n] = ys[n] then lt (xs.drop (n + 1)) (ys.drop (n + 1)) else decide (xs[n] < ys[n]) := by
  rw [List.drop_eq_getElem_cons hx, List.drop_eq_getElem_cons hy, lt_cons]
theorem lt_end_left {xs ys : List Int} {n : Nat} (hx : xs.length = n) (hy : n ≤ ys.length) : lt (xs.drop n) (ys.drop n) = decide (xs.length < ys.length) := by
  rw [List.drop_eq_nil_of_le (by omega), lt_nil]
  simp; omega
theorem lt_end_right {xs ys : List Int} {n : Nat} (hx : n < xs.length) (hy : ys.length = n) : lt (xs.drop n) (ys.drop n) = decide (xs.length < ys.length) := by
  rw [List.drop_eq_nil_of_le (show ys.length ≤ n by omega), lt_to_nil]
  simp; omega

end Go.Proofs.Ytpioolbcilfijab
