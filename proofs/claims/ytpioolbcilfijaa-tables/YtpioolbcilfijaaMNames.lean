/-
  MNames: plain mathematics of marks, pieces, names, turns (P12 to P15). Nothing of the program.
-/
import Derived.Test.YtpioolbcilfijaaMKinds
import Derived.Test.YtpioolbcilfijaaMDense
import Derived.Test.YtpioolbcilfijaaMOrder
import Derived.Test.YtpioolbcilfijaaMCnt
namespace Go.Proofs.Ytpioolbcilfijaa

/-- Is there a mark at i? -/
def isMark (xs : List Int) (i : Nat) : Bool := decide (kd xs i = 77)
/-- The marks below n, from the left on. -/
def marksTo (xs : List Int) (n : Nat) : List Int := ((List.range n).filter (isMark xs)).map (fun i : Nat => (i : Int))
def marks (xs : List Int) : List Int := marksTo xs xs.length
theorem marksTo_succ (xs : List Int) (n : Nat) : marksTo xs (n + 1) = marksTo xs n ++ if isMark xs n = true then [(n : Int)] else [] := by
  unfold marksTo
  rw [List.range_succ, List.filter_append, List.map_append]
  congr 1
  by_cases h : isMark xs n = true
  · simp [h]
  · simp [h]
theorem marksTo_length_le (xs : List Int) (n : Nat) : (marksTo xs n).length ≤ n := by
  have := List.length_filter_le (isMark xs) (List.range n)
  simpa [marksTo] using this

theorem marks_mem {xs : List Int} {x : Int} (h : x ∈ marks xs) : ∃ p : Nat, x = p ∧ p < xs.length ∧ isMark xs p = true := by
  unfold marks marksTo at h
  obtain ⟨p, hp, rfl⟩ := List.mem_map.1 h
  rw [List.mem_filter, List.mem_range] at hp
  exact ⟨p, rfl, hp.1, hp.2⟩
theorem marks_at {xs : List Int} {i : Nat} (h : i < (marks xs).length) : ∃ p : Nat, (marks xs).getD i 0 = p ∧ p < xs.length ∧ isMark xs p = true := by
  have hm : (marks xs).getD i 0 ∈ marks xs := by
    rw [List.getD, List.getElem?_eq_getElem h]; exact List.getElem_mem _
  exact marks_mem hm
theorem marks_rise (xs : List Int) : (marks xs).Pairwise (· < ·) := by
  unfold marks marksTo
  refine List.Pairwise.map (R := (· < ·)) _ ?_ ((List.pairwise_lt_range (n := xs.length)).filter _)
  intro a b h
  show (a : Int) < b
  omega
theorem marks_next {xs : List Int} {i : Nat} (h : i + 1 < (marks xs).length) : (marks xs).getD i 0 < (marks xs).getD (i + 1) 0 := by
  have := List.pairwise_iff_getElem.1 (marks_rise xs) i (i + 1) (by omega) h (by omega)
  rw [List.getD, List.getD, List.getElem?_eq_getElem h, List.getElem?_eq_getElem (show i < (marks xs).length by omega)]
  exact this
theorem marks_length_le (xs : List Int) : (marks xs).length ≤ xs.length := marksTo_length_le xs xs.length

/-- What stands for the symbol at i in a piece: twice the symbol, and one more where there is no L. -/
def code (xs : List Int) (i : Nat) : Int := 2 * (dense xs).getD i 0 + if kd xs i = 76 then 0 else 1
/-- The piece from p to q, with q; with the end where q is the text's length or more. -/
def pieceTo (xs : List Int) (p n : Nat) : List Int := (List.range n).map (fun i => code xs (p + i))
def piece (xs : List Int) (p q : Nat) : List Int := pieceTo xs p (min (q + 1) xs.length - p) ++ if xs.length ≤ q then [-1] else []
theorem pieceTo_succ (xs : List Int) (p n : Nat) : pieceTo xs p (n + 1) = pieceTo xs p n ++ [code xs (p + n)] := by simp [pieceTo, List.range_succ]

/-- The piece of the i-th mark. -/
def pc (xs : List Int) (i : Nat) : List Int := piece xs ((marks xs).getD i 0).toNat (if i + 1 < (marks xs).length then ((marks xs).getD (i + 1) 0).toNat else xs.length)

/-- Has the piece of j stood before? -/
def hadTo (xs : List Int) (j k : Nat) : Bool := (List.range k).any (fun m => pc xs m == pc xs j)
/-- P12: how many different pieces are lesser. -/
def nameCnt (xs : List Int) (i j : Nat) : Nat := (List.range j).countP (fun m => lt (pc xs m) (pc xs i) && !hadTo xs m m)
def names (xs : List Int) : List Int := (List.range (marks xs).length).map (fun i => (nameCnt xs i (marks xs).length : Int))
theorem names_length (xs : List Int) : (names xs).length = (marks xs).length := by simp [names]
theorem hadTo_succ (xs : List Int) (j k : Nat) : hadTo xs j (k + 1) = (hadTo xs j k || pc xs k == pc xs j) := by simp [hadTo, List.range_succ]
theorem nameCnt_succ (xs : List Int) (i j : Nat) : nameCnt xs i (j + 1) = nameCnt xs i j + if (lt (pc xs j) (pc xs i) && !hadTo xs j j) = true then 1 else 0 := countP_range_succ _ _

/-- Is there a turn at p? -/
def isTurn (xs : List Int) (p : Nat) : Bool := decide (kd xs p ≠ 76) && decide (p + 1 < xs.length) && decide (kd xs (p + 1) = 76)
/-- P14, of the first n places of an order. -/
def turnsTo (xs L : List Int) (n : Nat) : List Int := (L.take n).filter (fun p => isTurn xs p.toNat)
theorem turnsTo_succ {xs L : List Int} {n : Nat} (h : n < L.length) : turnsTo xs L (n + 1) = turnsTo xs L n ++ if isTurn xs L[n].toNat = true then [L[n]] else [] := by
  unfold turnsTo
  rw [List.take_succ_eq_append_getElem h, List.filter_append]
  congr 1
  by_cases e : isTurn xs L[n].toNat = true
  · simp [e]
  · simp [e]
theorem turnsTo_length_le (xs L : List Int) (n : Nat) : (turnsTo xs L n).length ≤ n :=
  Nat.le_trans (List.length_filter_le _ _) (List.length_take_le _ _)

theorem isMark_zero (xs : List Int) : isMark xs 0 = false := by
  unfold isMark
  refine decide_eq_false ?_
  unfold kd
  split
  · omega
  · rw [if_neg (by simp)]; omega
theorem marksTo_short (xs : List Int) : ∀ n, 0 < n → (marksTo xs n).length < n
  | 0, h => by omega
  | 1, _ => by
    rw [marksTo_succ, isMark_zero]
    simp [marksTo]
  | n + 2, _ => by
    have ih := marksTo_short xs (n + 1) (by omega)
    rw [marksTo_succ, List.length_append]
    split <;> simp <;> omega
theorem names_short {xs : List Int} (h : 0 < xs.length) : (names xs).length < xs.length := by
  rw [names_length]; exact marksTo_short xs _ h

/-- P13, with fuel. -/
def lev (same : List Int → Bool) : Nat → List Int → Nat
  | 0, _ => 0
  | k + 1, ts => if ts.length = 0 then 0 else if same (names ts) = true then 0 else lev same k (names ts) + 1

end Go.Proofs.Ytpioolbcilfijaa
