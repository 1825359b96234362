/-
  MKinds: plain mathematics of L, M and S (P5). Nothing of the program.
-/
import Derived.Test.YtpioolbcilfijabMLess
namespace Go.Proofs.Ytpioolbcilfijab

/-- Is the suffix at i greater than the next one? -/
def gt (xs : List Int) (i : Nat) : Bool := lt (xs.drop (i + 1)) (xs.drop i)
theorem gt_last {xs : List Int} {i : Nat} (h : i + 1 = xs.length) : gt xs i = true := by
  unfold gt
  rw [List.drop_eq_nil_of_le (show xs.length ≤ i + 1 by omega), lt_nil]
  simp; omega
theorem gt_same {xs : List Int} {i : Nat} (h : i + 1 < xs.length) (he : xs[i] = xs[i + 1]) : gt xs i = gt xs (i + 1) := by
  unfold gt
  rw [List.drop_eq_getElem_cons h, List.drop_eq_getElem_cons (show i < xs.length by omega), lt_cons, if_pos he.symm, List.drop_eq_getElem_cons h]
theorem gt_other {xs : List Int} {i : Nat} (h : i + 1 < xs.length) (he : ¬ xs[i] = xs[i + 1]) : gt xs i = decide (xs[i + 1] < xs[i]) := by
  unfold gt
  rw [List.drop_eq_getElem_cons h, List.drop_eq_getElem_cons (show i < xs.length by omega), lt_cons, if_neg (fun e => he e.symm)]

/-- P5: the byte of a place. -/
def kd (xs : List Int) (i : Nat) : Int := if gt xs i = true then 76 else if 0 < i ∧ gt xs (i - 1) = true then 77 else 83
/-- The byte without marks. -/
def ls (xs : List Int) (i : Nat) : Int := if gt xs i = true then 76 else 83
def kindsL (xs : List Int) : List Int := (List.range xs.length).map (kd xs)
theorem kindsL_length (xs : List Int) : (kindsL xs).length = xs.length := by simp [kindsL]

theorem kd_L {xs : List Int} {i : Nat} (h : gt xs i = true) : kd xs i = 76 := by simp [kd, h]
theorem kd_M {xs : List Int} {i : Nat} (h : gt xs (i + 1) = false) (h2 : gt xs i = true) : kd xs (i + 1) = 77 := by simp [kd, h, h2]
theorem kd_S {xs : List Int} {i : Nat} (h : gt xs (i + 1) = false) (h2 : gt xs i = false) : kd xs (i + 1) = 83 := by simp [kd, h, h2]
theorem kd_S0 {xs : List Int} (h : gt xs 0 = false) : kd xs 0 = 83 := by simp [kd, h]
theorem kd_not {xs : List Int} {i : Nat} (h : gt xs i = false) : (kd xs i == 76) = false := by
  unfold kd; rw [h]; simp; split <;> omega
theorem ls_L {xs : List Int} {i : Nat} (h : gt xs i = true) : ls xs i = 76 := by simp [ls, h]
theorem ls_S {xs : List Int} {i : Nat} (h : gt xs i = false) : ls xs i = 83 := by simp [ls, h]

/-- Before n the kinds, from n on L and S alone; nothing is said of what lies below m. -/
def Part (xs ks : List Int) (m n : Nat) : Prop := ks.length = xs.length ∧ (∀ j, m ≤ j → j < n → j < xs.length → ks[j]? = some (kd xs j)) ∧ ∀ j, m ≤ j → n ≤ j → j < xs.length → ks[j]? = some (ls xs j)

theorem Part.down {xs ks : List Int} {m : Nat} (h : Part xs ks (m + 1) 0) (hm : m < xs.length) : Part xs (ks.set m (ls xs m)) m 0 := by
  obtain ⟨h1, h2, h3⟩ := h
  refine ⟨by simpa using h1, by omega, fun j hj _ hl => ?_⟩
  rcases Nat.eq_or_lt_of_le hj with rfl | hlt
  · rw [List.getElem?_set_self (by omega)]
  · rw [List.getElem?_set_ne (by omega)]; exact h3 j hlt (Nat.zero_le _) hl
theorem Part.one {xs ks : List Int} (h : Part xs ks 0 0) : Part xs ks 0 1 := by
  obtain ⟨h1, _, h3⟩ := h
  refine ⟨h1, fun j _ hj hl => ?_, fun j _ _ hl => h3 j (Nat.zero_le _) (Nat.zero_le _) hl⟩
  obtain rfl : j = 0 := by omega
  rw [h3 0 (Nat.le_refl _) (Nat.le_refl _) hl]
  simp [kd, ls]
theorem Part.stay {xs ks : List Int} {n : Nat} (h : Part xs ks 0 n) (he : kd xs n = ls xs n) : Part xs ks 0 (n + 1) := by
  obtain ⟨h1, h2, h3⟩ := h
  refine ⟨h1, fun j hj hjn hl => ?_, fun j hj hjn hl => h3 j hj (by omega) hl⟩
  rcases Nat.lt_or_ge j n with h | h
  · exact h2 j hj h hl
  · obtain rfl : j = n := by omega
    rw [h3 j hj (Nat.le_refl _) hl, he]
theorem Part.put {xs ks : List Int} {n : Nat} (h : Part xs ks 0 n) (hn : n < xs.length) : Part xs (ks.set n (kd xs n)) 0 (n + 1) := by
  obtain ⟨h1, h2, h3⟩ := h
  refine ⟨by simpa using h1, fun j hj hjn hl => ?_, fun j hj hjn hl => ?_⟩
  · rcases Nat.lt_or_ge j n with h | h
    · rw [List.getElem?_set_ne (by omega)]; exact h2 j hj h hl
    · obtain rfl : j = n := by omega
      rw [List.getElem?_set_self (by omega)]
  · rw [List.getElem?_set_ne (by omega)]; exact h3 j hj (by omega) hl
theorem Part.done {xs ks : List Int} {n : Nat} (h : Part xs ks 0 n) (hn : xs.length ≤ n) : ks = kindsL xs := by
  obtain ⟨h1, h2, _⟩ := h
  apply List.ext_getElem?
  intro j
  rcases Nat.lt_or_ge j xs.length with hj | hj
  · rw [h2 j (Nat.zero_le _) (by omega) hj]
    simp [kindsL, hj]
  · rw [List.getElem?_eq_none (by omega), List.getElem?_eq_none (by rw [kindsL_length]; omega)]

/-- The document's loop: the first n bytes stand. -/
def Pre (xs ks : List Int) (n : Nat) : Prop := ks.length = xs.length ∧ ∀ j, j < n → j < xs.length → ks[j]? = some (kd xs j)
theorem Pre.put {xs ks : List Int} {n : Nat} (h : Pre xs ks n) (hn : n < xs.length) : Pre xs (ks.set n (kd xs n)) (n + 1) := by
  obtain ⟨h1, h2⟩ := h
  refine ⟨by simpa using h1, fun j hjn hl => ?_⟩
  rcases Nat.lt_or_ge j n with h | h
  · rw [List.getElem?_set_ne (by omega)]; exact h2 j h hl
  · obtain rfl : j = n := by omega
    rw [List.getElem?_set_self (by omega)]
theorem Pre.done {xs ks : List Int} {n : Nat} (h : Pre xs ks n) (hn : xs.length ≤ n) : ks = kindsL xs := by
  obtain ⟨h1, h2⟩ := h
  apply List.ext_getElem?
  intro j
  rcases Nat.lt_or_ge j xs.length with hj | hj
  · rw [h2 j (by omega) hj]
    simp [kindsL, hj]
  · rw [List.getElem?_eq_none (by omega), List.getElem?_eq_none (by rw [kindsL_length]; omega)]

end Go.Proofs.Ytpioolbcilfijab
