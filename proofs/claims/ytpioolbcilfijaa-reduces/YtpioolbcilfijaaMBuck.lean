/-
  MBuck: plain mathematics of where a suffix stands among those that begin with its symbol (why suffixes can be drawn in; P8, P13, P15). Nothing of the program.
-/
import Derived.Test.YtpioolbcilfijaaMPos
import Derived.Test.YtpioolbcilfijaaMLift
namespace Go.Proofs.Ytpioolbcilfijaa

/-- How many of the first n. -/
def cnt (n : Nat) (P : Nat → Bool) : Nat := (List.range n).countP P
theorem cnt_congr {n : Nat} {P Q : Nat → Bool} (h : ∀ q, q < n → P q = Q q) : cnt n P = cnt n Q := by
  unfold cnt
  exact List.countP_congr (fun q hq => by rw [h q (List.mem_range.1 hq)])
theorem cnt_succ (n : Nat) (P : Nat → Bool) : cnt (n + 1) P = cnt n P + if P n = true then 1 else 0 := countP_range_succ P n
theorem cnt_split (P Q : Nat → Bool) : ∀ n, cnt n P = cnt n (fun q => P q && Q q) + cnt n (fun q => P q && !Q q)
  | 0 => rfl
  | n + 1 => by
    rw [cnt_succ, cnt_succ, cnt_succ, cnt_split P Q n]
    cases P n <;> cases Q n <;> simp <;> omega
theorem cnt_none {n : Nat} {P : Nat → Bool} (h : ∀ q, q < n → P q = false) : cnt n P = 0 := by
  unfold cnt
  rw [List.countP_eq_zero]
  intro q hq
  rw [h q (List.mem_range.1 hq)]; simp
theorem cnt_le_cnt {n : Nat} {P Q : Nat → Bool} (h : ∀ q, q < n → P q = true → Q q = true) : cnt n P ≤ cnt n Q :=
  countP_le_of (fun q hq => h q (List.mem_range.1 hq))
theorem cnt_lt_cnt {n : Nat} {P Q : Nat → Bool} (h : ∀ q, q < n → P q = true → Q q = true) {p : Nat} (hp : p < n) (h1 : P p = false) (h2 : Q p = true) : cnt n P < cnt n Q :=
  countP_lt_of (fun q hq => h q (List.mem_range.1 hq)) ⟨p, List.mem_range.2 hp, h1, h2⟩
theorem cnt_le (n : Nat) (P : Nat → Bool) : cnt n P ≤ n := countP_range_le P n
/-- One more. -/
theorem cnt_add {P Q : Nat → Bool} {p : Nat} (h1 : P p = false) (h2 : Q p = true) : ∀ {n : Nat}, p < n → (∀ q, q < n → q ≠ p → P q = Q q) → cnt n Q = cnt n P + 1
  | 0, hp, _ => by omega
  | n + 1, hp, h => by
    rw [cnt_succ, cnt_succ]
    by_cases e : p = n
    · subst e
      rw [h1, h2, cnt_congr (n := p) (P := P) (Q := Q) (fun q hq => h q (by omega) (by omega))]
      simp
    · rw [cnt_add h1 h2 (n := n) (by omega) (fun q hq => h q (by omega)), h n (by omega) (fun h => e h.symm)]
      split <;> omega

/-- The symbol at a place. -/
def sy (xs : List Int) (p : Nat) : Int := xs.getD p 0
theorem sy_at {xs : List Int} {p : Nat} (h : p < xs.length) : sy xs p = xs[p] := by simp [sy, List.getD, h]
/-- Where the suffixes that begin with c begin in the order, and where they end. -/
def bs (xs : List Int) (c : Int) : Nat := cnt xs.length (fun q => decide (sy xs q < c))
def be (xs : List Int) (c : Int) : Nat := cnt xs.length (fun q => decide (sy xs q ≤ c))

/-- The suffix at q is lesser than that at p. -/
def sb (xs : List Int) (q p : Nat) : Bool := lt (xs.drop q) (xs.drop p)
theorem sb_lt {xs : List Int} {q p : Nat} (hq : q < xs.length) (hp : p < xs.length) (h : sy xs q < sy xs p) : sb xs q p = true := by
  rw [sy_at hq, sy_at hp] at h
  unfold sb
  rw [List.drop_eq_getElem_cons hq, List.drop_eq_getElem_cons hp, lt_cons, if_neg (by omega)]
  exact decide_eq_true h
theorem sb_same {xs : List Int} {q p : Nat} (hq : q < xs.length) (hp : p < xs.length) (h : sy xs q = sy xs p) : sb xs q p = sb xs (q + 1) (p + 1) := by
  rw [sy_at hq, sy_at hp] at h
  unfold sb
  rw [List.drop_eq_getElem_cons hq, List.drop_eq_getElem_cons hp, lt_cons, if_pos h]
theorem sb_irrefl (xs : List Int) (p : Nat) : sb xs p p = false := lt_irrefl _
theorem sb_asymm {xs : List Int} {q p : Nat} (h : sb xs q p = true) : sb xs p q = false := lt_asymm _ _ h
theorem sb_total {xs : List Int} {q p : Nat} (hq : q ≤ xs.length) (hp : p ≤ xs.length) (hne : q ≠ p) (h : sb xs q p = false) : sb xs p q = true := by
  rcases lt_total (xs.drop q) (xs.drop p) with h1 | h1 | h1
  · unfold sb at h; rw [h] at h1; cases h1
  · exact h1
  · have := congrArg List.length h1
    simp at this
    omega
theorem sb_trans {xs : List Int} {a b c : Nat} (h : sb xs a b = true) (h2 : sb xs b c = true) : sb xs a c = true := lt_trans _ _ _ h h2
theorem sb_sy {xs : List Int} {q p : Nat} (hq : q < xs.length) (hp : p < xs.length) (h : sb xs q p = true) : sy xs q ≤ sy xs p := by
  rcases Int.lt_or_le (sy xs p) (sy xs q) with h1 | h1
  · rw [sb_asymm (sb_lt hp hq h1)] at h; cases h
  · exact h1
/-- An L is greater than the next one, what is no L is lesser. -/
theorem sb_gt {xs : List Int} {p : Nat} (h : gt xs p = true) : sb xs (p + 1) p = true := h
theorem sb_ngt {xs : List Int} {p : Nat} (hp : p < xs.length) (h : gt xs p = false) : sb xs p (p + 1) = true :=
  sb_total (by omega) (by omega) (by omega) h
theorem sb_LS {xs : List Int} {q p : Nat} (hq : q < xs.length) (hp : p < xs.length) (h : sy xs q = sy xs p) (h1 : gt xs q = true) (h2 : gt xs p = false) : sb xs q p = true := by
  rw [sy_at hq, sy_at hp] at h
  exact LS _ q p rfl hq hp h1 h2 h

section
variable {xs L : List Int} (hO : Ord xs L)
include hO

theorem ps_cnt {p : Nat} (hp : p < xs.length) : ps L p = cnt xs.length (fun q => sb xs q p) := by
  have h2 : (places xs.length).countP (fun q => lt (xs.drop q.toNat) (xs.drop p)) = (List.range xs.length).countP (fun j => lt (xs.drop j) (xs.drop p)) := by
    unfold places
    rw [List.countP_map]
    rfl
  have h3 := countP_sorted hO.1 (i := ps L p) (by rw [OrdTo.length hO]; exact ps_lt hO hp)
  rw [ps_at hO hp, Int.toNat_natCast, hO.perm.countP_eq, h2] at h3
  exact h3.symm

theorem ps_bucket {p : Nat} (hp : p < xs.length) : ps L p = bs xs (sy xs p) + cnt xs.length (fun q => decide (sy xs q = sy xs p) && sb xs q p) := by
  rw [ps_cnt hO hp, cnt_split _ (fun q => decide (sy xs q < sy xs p))]
  congr 1
  · refine cnt_congr (fun q hq => ?_)
    by_cases h : sy xs q < sy xs p
    · simp [h, sb_lt hq hp h]
    · simp [h]
  · refine cnt_congr (fun q hq => ?_)
    by_cases h : sb xs q p = true
    · have := sb_sy hq hp h
      rw [h]
      rcases Int.lt_or_eq_of_le this with h1 | h1
      · simp [h1, show ¬ sy xs q = sy xs p by omega]
      · simp [h1]
    · simp [h]

/-- Where an L stands: ahead of all that are no L. -/
theorem ps_L {p : Nat} (hp : p < xs.length) (hg : gt xs p = true) : ps L p = bs xs (sy xs p) + cnt xs.length (fun q => decide (sy xs q = sy xs p) && gt xs q && sb xs q p) := by
  rw [ps_bucket hO hp]
  congr 1
  refine cnt_congr (fun q hq => ?_)
  by_cases h : sy xs q = sy xs p
  · cases e : gt xs q with
    | true => simp [h]
    | false => rw [sb_asymm (sb_LS hp hq h.symm hg e)]; simp
  · simp [h]

theorem ps_S {p : Nat} (hp : p < xs.length) (hg : gt xs p = false) : ps L p + 1 + cnt xs.length (fun q => decide (sy xs q = sy xs p) && !gt xs q && sb xs p q) = be xs (sy xs p) := by
  have hbe : be xs (sy xs p) = bs xs (sy xs p) + cnt xs.length (fun q => decide (sy xs q = sy xs p)) := by
    unfold be bs
    rw [cnt_split (fun q => decide (sy xs q ≤ sy xs p)) (fun q => decide (sy xs q < sy xs p))]
    congr 1
    · refine cnt_congr (fun q _ => ?_)
      by_cases h : sy xs q < sy xs p
      · simp [h, show sy xs q ≤ sy xs p by omega]
      · simp [h]
    · refine cnt_congr (fun q _ => ?_)
      by_cases h : sy xs q = sy xs p
      · simp [h]
      · by_cases h2 : sy xs q ≤ sy xs p
        · simp [h, h2, show sy xs q < sy xs p by omega]
        · simp [h, h2]
  rw [hbe, ps_bucket hO hp]
  have h1 := cnt_split (fun q => decide (sy xs q = sy xs p)) (fun q => sb xs q p) xs.length
  have h2 : cnt xs.length (fun q => decide (sy xs q = sy xs p) && !sb xs q p) = cnt xs.length (fun q => decide (sy xs q = sy xs p) && !gt xs q && sb xs p q) + 1 := by
    refine cnt_add (p := p) (by simp [sb_irrefl]) (by simp [sb_irrefl]) hp (fun q hq hne => ?_)
    by_cases h : sy xs q = sy xs p
    · cases e : sb xs q p with
      | true => rw [sb_asymm e]; simp
      | false =>
        rw [sb_total (by omega) (by omega) hne e]
        cases e2 : gt xs q with
        | true => rw [sb_LS hq hp h e2 hg] at e; cases e
        | false => simp
    · simp [h]
  omega
end

end Go.Proofs.Ytpioolbcilfijaa
