/-
  MRanks: plain mathematics of ranks by beginnings (P7, P10). Nothing of the program.
-/
import Derived.Test.YtpioolbcilfijabMOrder
namespace Go.Proofs.Ytpioolbcilfijab

/-- The first h symbols of the suffix at i. -/
def fst (xs : List Int) (i h : Nat) : List Int := (xs.drop i).take h

theorem countP_le_of {α : Type} {p q : α → Bool} : ∀ {l : List α}, (∀ x ∈ l, p x = true → q x = true) → l.countP p ≤ l.countP q
  | [], _ => by simp
  | x :: r, h => by
    have ih := countP_le_of (l := r) (fun y hy => h y (List.mem_cons_of_mem _ hy))
    have hx := h x (List.mem_cons_self ..)
    rw [List.countP_cons, List.countP_cons]
    by_cases hp : p x = true
    · rw [if_pos hp, if_pos (hx hp)]; omega
    · rw [if_neg hp]; split <;> omega
theorem countP_lt_of {α : Type} {p q : α → Bool} : ∀ {l : List α}, (∀ x ∈ l, p x = true → q x = true) → (∃ x ∈ l, p x = false ∧ q x = true) → l.countP p < l.countP q
  | [], _, h => by obtain ⟨x, hx, _⟩ := h; simp at hx
  | x :: r, h, ⟨y, hy, h1, h2⟩ => by
    rw [List.countP_cons, List.countP_cons]
    have hr : ∀ z ∈ r, p z = true → q z = true := fun z hz => h z (List.mem_cons_of_mem _ hz)
    rcases List.mem_cons.1 hy with rfl | hy
    · have := countP_le_of hr
      rw [if_neg (by rw [h1]; simp), if_pos h2]; omega
    · have ih := countP_lt_of hr ⟨y, hy, h1, h2⟩
      by_cases hp : p x = true
      · rw [if_pos hp, if_pos (h x (List.mem_cons_self ..) hp)]; omega
      · rw [if_neg hp]; split <;> omega

/-- How many of the first n keys are lesser than the key of i. -/
def rkOf (n : Nat) (f : Nat → List Int) (i : Nat) : Nat := (List.range n).countP (fun j => lt (f j) (f i))

theorem rkOf_le (n : Nat) (f : Nat → List Int) (i : Nat) : rkOf n f i ≤ n := by
  have := List.countP_le_length (p := fun j => lt (f j) (f i)) (l := List.range n)
  simpa [rkOf] using this
theorem rkOf_mono {n : Nat} {f : Nat → List Int} {i j : Nat} (h : lt (f i) (f j) = false) : rkOf n f j ≤ rkOf n f i := by
  refine countP_le_of (fun _ _ hk => ?_)
  rcases lt_total (f i) (f j) with h1 | h1 | h1
  · rw [h] at h1; cases h1
  · exact lt_trans _ _ _ hk h1
  · rw [h1]; exact hk
theorem rkOf_lt {n : Nat} {f : Nat → List Int} {i j : Nat} (hj : j < n) (h : lt (f j) (f i) = true) : rkOf n f j < rkOf n f i :=
  countP_lt_of (fun _ _ hk => lt_trans _ _ _ hk h) ⟨j, List.mem_range.2 hj, lt_irrefl _, h⟩
theorem rkOf_lt_iff {n : Nat} {f : Nat → List Int} {i j : Nat} (hj : j < n) : rkOf n f j < rkOf n f i ↔ lt (f j) (f i) = true := by
  constructor
  · intro h
    cases e : lt (f j) (f i) with
    | true => rfl
    | false => have := rkOf_mono (n := n) e; omega
  · exact rkOf_lt hj
theorem rkOf_eq_iff {n : Nat} {f : Nat → List Int} {i j : Nat} (hi : i < n) (hj : j < n) : rkOf n f j = rkOf n f i ↔ f j = f i := by
  constructor
  · intro h
    rcases lt_total (f j) (f i) with h1 | h1 | h1
    · have := rkOf_lt hj h1; omega
    · have := rkOf_lt hi h1; omega
    · exact h1
  · intro h; unfold rkOf; rw [h]
theorem rkOf_bound {n : Nat} {f : Nat → List Int} {i : Nat} (hi : i < n) : rkOf n f i < n := by
  have := countP_lt_of (p := fun j => lt (f j) (f i)) (q := fun _ => true) (l := List.range n) (fun _ _ _ => rfl) ⟨i, List.mem_range.2 hi, lt_irrefl _, rfl⟩
  simpa [rkOf] using this

/-- P7. -/
def rk (xs : List Int) (h i : Nat) : Nat := rkOf xs.length (fun j => fst xs j h) i
def ranks (xs : List Int) (h : Nat) : List Int := (List.range xs.length).map (fun i => (rk xs h i : Int))
theorem ranks_length (xs : List Int) (h : Nat) : (ranks xs h).length = xs.length := by simp [ranks]
theorem ranks_at (xs : List Int) (h i : Nat) (hi : i < xs.length) : (ranks xs h).getD i 0 = rk xs h i := by simp [ranks, List.getD, hi]

theorem rk_lt_iff {xs : List Int} {h i j : Nat} (hj : j < xs.length) : rk xs h j < rk xs h i ↔ lt (fst xs j h) (fst xs i h) = true := rkOf_lt_iff hj
theorem rk_eq_iff {xs : List Int} {h i j : Nat} (hi : i < xs.length) (hj : j < xs.length) : rk xs h j = rk xs h i ↔ fst xs j h = fst xs i h := rkOf_eq_iff hi hj

/-- Lists that are cut alike: first the heads, then the tails. -/
theorem lt_cat : ∀ (u1 v1 u2 v2 : List Int) (x : Nat), u1.length ≤ x → v1.length ≤ x → (u1.length < x → u2 = []) → (v1.length < x → v2 = []) →
    lt (u1 ++ u2) (v1 ++ v2) = if u1 = v1 then lt u2 v2 else lt u1 v1
  | [], [], u2, v2, _, _, _, _, _ => by simp
  | [], b :: v, u2, v2, x, _, h2, h3, _ => by
    have : u2 = [] := h3 (by simp at h2 ⊢; omega)
    subst this
    simp [lt]
  | a :: u, [], u2, v2, x, h1, _, _, h4 => by
    have : v2 = [] := h4 (by simp at h1 ⊢; omega)
    subst this
    simp [lt]
  | a :: u, b :: v, u2, v2, x, h1, h2, h3, h4 => by
    simp only [List.cons_append, lt_cons]
    by_cases e : a = b
    · subst e
      simp only [List.length_cons] at h1 h2 h3 h4
      rw [if_pos rfl, if_pos rfl, lt_cat u v u2 v2 (x - 1) (by omega) (by omega) (fun h => h3 (by omega)) (fun h => h4 (by omega))]
      by_cases e2 : u = v
      · subst e2; rw [if_pos rfl, if_pos rfl]
      · rw [if_neg e2, if_neg (by simpa using e2)]
    · rw [if_neg e, if_neg e, if_neg (by simp [e])]

theorem fst_add (xs : List Int) (i x y : Nat) : fst xs i (x + y) = fst xs i x ++ fst xs (i + x) y := by
  unfold fst
  rw [List.take_add, List.drop_drop]

/-- Ranks by x + y symbols are those of the pairs. -/
theorem lt_fst_add (xs : List Int) (i j x y : Nat) : lt (fst xs j (x + y)) (fst xs i (x + y)) = if fst xs j x = fst xs i x then lt (fst xs (j + x) y) (fst xs (i + x) y) else lt (fst xs j x) (fst xs i x) := by
  rw [fst_add, fst_add]
  refine lt_cat _ _ _ _ x (List.length_take_le _ _) (List.length_take_le _ _) (fun h => ?_) (fun h => ?_)
  · unfold fst at h ⊢
    rw [List.drop_eq_nil_of_le (by simp at h; omega), List.take_nil]
  · unfold fst at h ⊢
    rw [List.drop_eq_nil_of_le (by simp at h; omega), List.take_nil]

theorem fst_whole {xs : List Int} {i h : Nat} (hh : xs.length ≤ i + h) : fst xs i h = xs.drop i := by
  unfold fst
  exact List.take_of_length_le (by simp; omega)

/-- The rank at a place; -1 behind the end. -/
def pr (xs : List Int) (y i : Nat) : Int := if i < xs.length then (rk xs y i : Int) else -1
theorem pr_in {xs : List Int} {y i : Nat} (h : i < xs.length) : pr xs y i = rk xs y i := if_pos h
theorem pr_out {xs : List Int} {y i : Nat} (h : ¬ i < xs.length) : pr xs y i = -1 := if_neg h

/-- Ranks by x + y symbols, out of those by x and by y. -/
theorem dbl_iff {xs : List Int} {x y i j : Nat} (hi : i < xs.length) (hj : j < xs.length) : lt (fst xs j (x + y)) (fst xs i (x + y)) = true ↔ rk xs x j < rk xs x i ∨ (rk xs x j = rk xs x i ∧ 0 < y ∧ pr xs y (j + x) < pr xs y (i + x)) := by
  rw [lt_fst_add]
  by_cases he : fst xs j x = fst xs i x
  · rw [if_pos he]
    have hr := (rk_eq_iff hi hj).2 he
    rcases Nat.eq_zero_or_pos y with rfl | hy
    · simp [fst, lt, hr]
    · have hgoal : lt (fst xs (j + x) y) (fst xs (i + x) y) = true ↔ pr xs y (j + x) < pr xs y (i + x) := by
        by_cases h1 : i + x < xs.length
        · by_cases h2 : j + x < xs.length
          · rw [pr_in h1, pr_in h2, ← rk_lt_iff h2]; omega
          · rw [pr_in h1, pr_out h2]
            have e1 : fst xs (j + x) y = [] := by unfold fst; rw [List.drop_eq_nil_of_le (by omega), List.take_nil]
            rw [e1, lt_nil]
            constructor
            · intro _; omega
            · intro _; simp [fst]; omega
        · rw [pr_out h1]
          have e1 : fst xs (i + x) y = [] := by unfold fst; rw [List.drop_eq_nil_of_le (by omega), List.take_nil]
          rw [e1, lt_to_nil]
          constructor
          · intro h; cases h
          · intro h
            by_cases h2 : j + x < xs.length
            · rw [pr_in h2] at h; omega
            · rw [pr_out h2] at h; omega
      rw [hgoal]
      constructor
      · intro h; exact .inr ⟨hr, hy, h⟩
      · rintro (h | ⟨_, _, h⟩)
        · omega
        · exact h
  · rw [if_neg he]
    have hr : ¬ rk xs x j = rk xs x i := fun h => he ((rk_eq_iff hi hj).1 h)
    rw [← rk_lt_iff hj]
    constructor
    · exact .inl
    · rintro (h | ⟨h, _⟩)
      · exact h
      · exact absurd h hr

end Go.Proofs.Ytpioolbcilfijab
