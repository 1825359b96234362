/-
  MShared: plain mathematics of what two suffixes have in common (P9, P11). Nothing of the program.
-/
import Derived.Test.YtpioolbcilfijaaMOrder
namespace Go.Proofs.Ytpioolbcilfijaa

/-- How many symbols two lists have in common from the left on. -/
def com : List Int → List Int → Nat
  | x :: r, y :: s => if x = y then com r s + 1 else 0
  | _, _ => 0

theorem com_cons (x y : Int) (r s : List Int) : com (x :: r) (y :: s) = if x = y then com r s + 1 else 0 := by rw [com]
theorem com_nil (s : List Int) : com [] s = 0 := by simp [com]
theorem com_to_nil (s : List Int) : com s [] = 0 := by cases s <;> simp [com]
theorem com_le : ∀ a b : List Int, com a b ≤ a.length
  | [], b => by rw [com_nil]; exact Nat.zero_le _
  | x :: r, [] => by rw [com_to_nil]; exact Nat.zero_le _
  | x :: r, y :: s => by
    rw [com_cons]
    split
    · have := com_le r s; simp; omega
    · exact Nat.zero_le _
theorem com_comm : ∀ a b : List Int, com a b = com b a
  | [], b => by rw [com_nil, com_to_nil]
  | x :: r, [] => by rw [com_nil, com_to_nil]
  | x :: r, y :: s => by
    rw [com_cons, com_cons, com_comm r s]
    by_cases e : x = y
    · subst e; rfl
    · rw [if_neg e, if_neg (fun h => e h.symm)]

/-- Of three rising lists the outer two have no more in common than the last two. -/
theorem com_between : ∀ a b c : List Int, (lt a b = true ∨ a = b) → lt b c = true → com a c ≤ com b c
  | [], b, c, _, _ => by rw [com_nil]; exact Nat.zero_le _
  | x :: r, [], c, h, _ => by rcases h with h | h <;> simp [lt] at h
  | x :: r, y :: s, [], _, h => by simp [lt] at h
  | x :: r, y :: s, z :: t, h1, h2 => by
    rw [com_cons, com_cons]
    by_cases e : x = z
    · subst e
      have hy : y = x := by
        rw [lt_cons] at h2
        rcases h1 with h1 | h1
        · rw [lt_cons] at h1
          by_cases e1 : x = y
          · exact e1.symm
          · rw [if_neg e1] at h1
            rw [if_neg (fun h => e1 h.symm)] at h2
            simp at h1 h2; omega
        · simp at h1; exact h1.1.symm
      subst hy
      rw [if_pos rfl, if_pos rfl]
      rw [lt_cons, if_pos rfl] at h2
      have := com_between r s t (by
        rcases h1 with h1 | h1
        · rw [lt_cons, if_pos rfl] at h1; exact .inl h1
        · simp at h1; exact .inr h1) h2
      omega
    · rw [if_neg e]; exact Nat.zero_le _
theorem com_between' : ∀ a b c : List Int, lt a b = true → (lt b c = true ∨ b = c) → com a c ≤ com a b
  | [], b, c, _, _ => by rw [com_nil]; exact Nat.zero_le _
  | x :: r, [], c, h, _ => by simp [lt] at h
  | x :: r, y :: s, [], _, h => by rw [com_to_nil]; exact Nat.zero_le _
  | x :: r, y :: s, z :: t, h1, h2 => by
    rw [com_cons, com_cons]
    by_cases e : x = z
    · subst e
      have hy : x = y := by
        rw [lt_cons] at h1
        by_cases e1 : x = y
        · exact e1
        · rw [if_neg e1] at h1
          rcases h2 with h2 | h2
          · rw [lt_cons, if_neg (fun h => e1 h.symm)] at h2
            simp at h1 h2; omega
          · simp at h2; exact h2.1.symm
      subst hy
      rw [if_pos rfl, if_pos rfl]
      rw [lt_cons, if_pos rfl] at h1
      have := com_between' r s t h1 (by
        rcases h2 with h2 | h2
        · rw [lt_cons, if_pos rfl] at h2; exact .inl h2
        · simp at h2; exact .inr h2)
      omega
    · rw [if_neg e]; exact Nat.zero_le _

/-- What the suffixes at i and j have in common. -/
def cm (xs : List Int) (i j : Nat) : Nat := com (xs.drop i) (xs.drop j)
theorem cm_step {xs : List Int} {i j : Nat} (hi : i < xs.length) (hj : j < xs.length) (h : xs[i] = xs[j]) : cm xs i j = cm xs (i + 1) (j + 1) + 1 := by
  unfold cm
  rw [List.drop_eq_getElem_cons hi, List.drop_eq_getElem_cons hj, com_cons, if_pos h]
theorem cm_stop {xs : List Int} {i j : Nat} (hi : i < xs.length) (hj : j < xs.length) (h : ¬ xs[i] = xs[j]) : cm xs i j = 0 := by
  unfold cm
  rw [List.drop_eq_getElem_cons hi, List.drop_eq_getElem_cons hj, com_cons, if_neg h]
theorem cm_end_left {xs : List Int} {i j : Nat} (hi : xs.length ≤ i) : cm xs i j = 0 := by
  unfold cm; rw [List.drop_eq_nil_of_le hi, com_nil]
theorem cm_end_right {xs : List Int} {i j : Nat} (hj : xs.length ≤ j) : cm xs i j = 0 := by
  unfold cm; rw [List.drop_eq_nil_of_le hj, com_to_nil]
theorem cm_le (xs : List Int) (i j : Nat) : cm xs i j ≤ xs.length - i := by
  have := com_le (xs.drop i) (xs.drop j)
  simpa [cm] using this
theorem cm_comm (xs : List Int) (i j : Nat) : cm xs i j = cm xs j i := com_comm _ _

/-- P9, of any list of places. -/
def sharedAt (xs os : List Int) (i : Nat) : Int := if i = 0 then 0 else cm xs (os.getD (i - 1) 0).toNat (os.getD i 0).toNat
def shared (xs os : List Int) : List Int := (List.range os.length).map (sharedAt xs os)
theorem shared_length (xs os : List Int) : (shared xs os).length = os.length := by simp [shared]
theorem shared_at {xs os : List Int} {i : Nat} (h : i < os.length) : (shared xs os)[i]? = some (sharedAt xs os i) := by simp [shared, h]

/-- P11: who stands ahead in the order; -1 for the first. -/
def beforeAt (L : List Int) (i : Nat) : Int := if i = 0 then -1 else L.getD (i - 1) 0
/-- The list of Before: at the place that stands i-th in the order stands the one ahead of it. -/
def IsBefore (xs L bs : List Int) : Prop := bs.length = xs.length ∧ ∀ i, i < L.length → bs[(L.getD i 0).toNat]? = some (beforeAt L i)

theorem OrdTo.at {xs L : List Int} {n : Nat} (h : OrdTo xs L n) {i : Nat} (hi : i < n) : 0 ≤ L.getD i 0 ∧ L.getD i 0 < n := by
  have hl := h.length
  have : L.getD i 0 ∈ L := by
    rw [List.getD, List.getElem?_eq_getElem (by omega)]
    exact List.getElem_mem _
  exact (h.2 _).1 this
theorem OrdTo.inj {xs L : List Int} {n : Nat} (h : OrdTo xs L n) {i j : Nat} (hi : i < n) (hj : j < n) (he : L.getD i 0 = L.getD j 0) : i = j := by
  have hl := h.length
  simp only [List.getD, List.getElem?_eq_getElem (show i < L.length by omega), List.getElem?_eq_getElem (show j < L.length by omega), Option.getD_some] at he
  rcases Nat.lt_trichotomy i j with h1 | h1 | h1
  · exact absurd he (List.pairwise_iff_getElem.1 h.nodup i j (by omega) (by omega) h1)
  · exact h1
  · exact absurd he.symm (List.pairwise_iff_getElem.1 h.nodup j i (by omega) (by omega) h1)
theorem OrdTo.place {xs L : List Int} {n : Nat} (h : OrdTo xs L n) {p : Nat} (hp : p < n) : ∃ i, i < n ∧ L.getD i 0 = p := by
  have hl := h.length
  obtain ⟨i, hi, he⟩ := List.getElem_of_mem ((h.2 (p : Int)).2 ⟨by omega, by omega⟩)
  exact ⟨i, by omega, by rw [List.getD, List.getElem?_eq_getElem hi]; exact he⟩

theorem IsBefore.unique {xs L bs bs' : List Int} (hO : Ord xs L) (h : IsBefore xs L bs) (h' : IsBefore xs L bs') : bs = bs' := by
  apply List.ext_getElem?
  intro p
  rcases Nat.lt_or_ge p xs.length with hp | hp
  · obtain ⟨i, hi, he⟩ := OrdTo.place hO hp
    have h1 := h.2 i (by rw [OrdTo.length hO]; exact hi)
    have h2 := h'.2 i (by rw [OrdTo.length hO]; exact hi)
    rw [he] at h1 h2
    simp only [Int.toNat_natCast] at h1 h2
    rw [h1, h2]
  · rw [List.getElem?_eq_none (by rw [h.1]; exact hp), List.getElem?_eq_none (by rw [h'.1]; exact hp)]

end Go.Proofs.Ytpioolbcilfijaa
