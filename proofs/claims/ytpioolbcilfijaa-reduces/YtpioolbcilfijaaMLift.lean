/-
  MLift: plain mathematics: the text of the names is ordered as the marks' suffixes are (P12; why the way by marks is right). Nothing of the program.
-/
import Derived.Test.YtpioolbcilfijaaMNames
import Derived.Test.YtpioolbcilfijaaMRanks
namespace Go.Proofs.Ytpioolbcilfijaa

/-- An L is lesser than what is no L, where the symbols are the same. -/
theorem LS {xs : List Int} : ∀ (k a b : Nat), xs.length - a = k → (ha : a < xs.length) → (hb : b < xs.length) → gt xs a = true → gt xs b = false → xs[a] = xs[b] → lt (xs.drop a) (xs.drop b) = true
  | 0, a, b, hk, ha, _, _, _, _ => by omega
  | k + 1, a, b, hk, ha, hb, hga, hgb, he => by
    have hb1 : b + 1 < xs.length := by
      rcases Nat.lt_or_ge (b + 1) xs.length with h | h
      · exact h
      · rw [gt_last (show b + 1 = xs.length by omega)] at hgb; cases hgb
    rw [List.drop_eq_getElem_cons ha, List.drop_eq_getElem_cons hb, lt_cons, if_pos he]
    rcases Nat.lt_or_ge (a + 1) xs.length with ha1 | ha1
    · rw [List.drop_eq_getElem_cons ha1, List.drop_eq_getElem_cons hb1, lt_cons]
      have hA : xs[a + 1] < xs[a] ∨ (xs[a] = xs[a + 1] ∧ gt xs (a + 1) = true) := by
        by_cases e : xs[a] = xs[a + 1]
        · exact .inr ⟨e, by rw [← gt_same ha1 e]; exact hga⟩
        · rw [gt_other ha1 e] at hga; exact .inl (by simpa using hga)
      have hB : xs[b] < xs[b + 1] ∨ (xs[b] = xs[b + 1] ∧ gt xs (b + 1) = false) := by
        by_cases e : xs[b] = xs[b + 1]
        · exact .inr ⟨e, by rw [← gt_same hb1 e]; exact hgb⟩
        · rw [gt_other hb1 e] at hgb; simp at hgb; exact .inl (by omega)
      rcases hA with hA | ⟨eA, gA⟩
      · rw [if_neg (by omega)]
        refine decide_eq_true ?_
        rcases hB with hB | ⟨eB, _⟩ <;> omega
      · rcases hB with hB | ⟨eB, gB⟩
        · rw [if_neg (by omega)]; exact decide_eq_true (by omega)
        · rw [if_pos (by omega)]
          have ih := LS k (a + 1) (b + 1) (by omega) ha1 hb1 gA gB (by omega)
          rw [List.drop_eq_getElem_cons ha1, List.drop_eq_getElem_cons hb1, lt_cons, if_pos (by omega)] at ih
          exact ih
    · rw [List.drop_eq_nil_of_le (show xs.length ≤ a + 1 by omega), lt_nil]
      simp; omega

/-- Symbols and their numbers are ordered alike. -/
theorem dense_lt {xs : List Int} {p q : Nat} (hp : p < xs.length) (hq : q < xs.length) : (dense xs).getD p 0 < (dense xs).getD q 0 ↔ xs[p] < xs[q] := by
  have e : ∀ i (hi : i < xs.length), (dense xs).getD i 0 = (cl (dis xs) xs[i] : Int) := fun i hi => by simp [dense, List.getD, hi]
  rw [e p hp, e q hq]
  constructor
  · intro h
    rcases Int.lt_or_le xs[p] xs[q] with h1 | h1
    · exact h1
    · exfalso
      have : cl (dis xs) xs[q] ≤ cl (dis xs) xs[p] := by
        unfold cl
        exact countP_le_of (fun x _ hx => by simp at hx ⊢; omega)
      omega
  · intro h
    have : cl (dis xs) xs[p] < cl (dis xs) xs[q] := by
      unfold cl
      refine countP_lt_of (fun x _ hx => by simp at hx ⊢; omega) ⟨xs[p], (mem_dis _ _).2 (List.getElem_mem hp), by simp, by simpa using h⟩
    omega
theorem dense_eq {xs : List Int} {p q : Nat} (hp : p < xs.length) (hq : q < xs.length) : (dense xs).getD p 0 = (dense xs).getD q 0 ↔ xs[p] = xs[q] := by
  have h1 := dense_lt hp hq
  have h2 := dense_lt hq hp
  omega
theorem dense_nonneg (xs : List Int) (p : Nat) : 0 ≤ (dense xs).getD p 0 := by
  rcases Nat.lt_or_ge p xs.length with h | h
  · simp [dense, List.getD, h]
  · rw [List.getD, List.getElem?_eq_none (by rw [dense_length]; exact h)]; simp

theorem kd_L_iff (xs : List Int) (i : Nat) : kd xs i = 76 ↔ gt xs i = true := by
  unfold kd
  constructor
  · intro h
    split at h
    · assumption
    · split at h <;> omega
  · intro h; rw [if_pos h]
theorem code_nonneg (xs : List Int) (i : Nat) : 0 ≤ code xs i := by
  unfold code
  have := dense_nonneg xs i
  split <;> omega

/-- The whole suffix at p in the pieces' signs, with the end. -/
def full (xs : List Int) (p : Nat) : List Int := pieceTo xs p (xs.length - p) ++ [-1]
theorem pieceTo_cons (xs : List Int) (p n : Nat) : pieceTo xs p (n + 1) = code xs p :: pieceTo xs (p + 1) n := by
  unfold pieceTo
  rw [List.range_succ_eq_map, List.map_cons, List.map_map]
  congr 1
  apply List.map_congr_left
  intro i _
  simp only [Function.comp]
  congr 1
  omega
theorem full_cons {xs : List Int} {p : Nat} (h : p < xs.length) : full xs p = code xs p :: full xs (p + 1) := by
  unfold full
  rw [show xs.length - p = (xs.length - (p + 1)) + 1 by omega, pieceTo_cons]
  rfl
theorem full_end {xs : List Int} {p : Nat} (h : xs.length ≤ p) : full xs p = [-1] := by
  unfold full
  rw [show xs.length - p = 0 by omega]
  rfl

/-- Suffixes are ordered as their signs are. -/
theorem full_lt {xs : List Int} : ∀ (k p q : Nat), xs.length - p = k → p ≤ xs.length → q ≤ xs.length → lt (full xs p) (full xs q) = lt (xs.drop p) (xs.drop q)
  | 0, p, q, hk, hp, hq => by
    rw [full_end (show xs.length ≤ p by omega), List.drop_eq_nil_of_le (show xs.length ≤ p by omega), lt_nil]
    rcases Nat.lt_or_ge q xs.length with h | h
    · rw [full_cons h, lt_cons]
      have := code_nonneg xs q
      rw [if_neg (by omega)]
      have h1 : (-1 : Int) < code xs q := by omega
      have h2 : 0 < (xs.drop q).length := by simp; omega
      rw [decide_eq_true h1, decide_eq_true h2]
    · rw [full_end h, lt_irrefl, List.drop_eq_nil_of_le h]; rfl
  | k + 1, p, q, hk, hp, hq => by
    have hp1 : p < xs.length := by omega
    rcases Nat.lt_or_ge q xs.length with h | h
    · rw [full_cons hp1, full_cons h, lt_cons, List.drop_eq_getElem_cons hp1, List.drop_eq_getElem_cons h, lt_cons]
      have ih := full_lt (xs := xs) k (p + 1) (q + 1) (by omega) (by omega) (by omega)
      have hd := dense_lt hp1 h
      have he := dense_eq hp1 h
      by_cases hs : xs[p] = xs[q]
      · rw [if_pos hs]
        have hdd := he.2 hs
        cases gp : gt xs p with
        | true =>
          cases gq : gt xs q with
          | true =>
            rw [if_pos (by unfold code; rw [if_pos ((kd_L_iff xs p).2 gp), if_pos ((kd_L_iff xs q).2 gq), hdd]), ih]
          | false =>
            have hnq : ¬ kd xs q = 76 := fun e => by rw [(kd_L_iff xs q).1 e] at gq; cases gq
            have hc : code xs p < code xs q := by unfold code; rw [if_pos ((kd_L_iff xs p).2 gp), if_neg hnq, hdd]; omega
            rw [if_neg (by omega), decide_eq_true hc]
            have := LS _ p q rfl hp1 h gp gq hs
            rw [List.drop_eq_getElem_cons hp1, List.drop_eq_getElem_cons h, lt_cons, if_pos hs] at this
            exact this.symm
        | false =>
          have hnp : ¬ kd xs p = 76 := fun e => by rw [(kd_L_iff xs p).1 e] at gp; cases gp
          cases gq : gt xs q with
          | true =>
            have hc : code xs q < code xs p := by unfold code; rw [if_neg hnp, if_pos ((kd_L_iff xs q).2 gq), hdd]; omega
            rw [if_neg (by omega), decide_eq_false (by omega)]
            have := LS _ q p rfl h hp1 gq gp hs.symm
            rw [List.drop_eq_getElem_cons hp1, List.drop_eq_getElem_cons h, lt_cons, if_pos hs.symm] at this
            exact (lt_asymm _ _ this).symm
          | false =>
            have hnq : ¬ kd xs q = 76 := fun e => by rw [(kd_L_iff xs q).1 e] at gq; cases gq
            rw [if_pos (by unfold code; rw [if_neg hnp, if_neg hnq, hdd]), ih]
      · rw [if_neg hs]
        have hne : ¬ (dense xs).getD p 0 = (dense xs).getD q 0 := fun e => hs (he.1 e)
        have hc : code xs p < code xs q ↔ (dense xs).getD p 0 < (dense xs).getD q 0 := by
          unfold code
          split <;> split <;> omega
        have hcn : ¬ code xs p = code xs q := by
          unfold code
          split <;> split <;> omega
        rw [if_neg hcn]
        exact decide_eq_decide.2 (hc.trans hd)
    · rw [full_cons hp1, full_end h, List.drop_eq_nil_of_le h, lt_to_nil, lt_cons]
      have := code_nonneg xs p
      rw [if_neg (by omega)]
      exact decide_eq_false (by omega)

/-- Beginnings of two lists that part inside both. -/
theorem lt_prefix : ∀ (U V : List Int) (a b : Nat), U.take a ≠ V.take b → ¬ (∃ c, V.take b = U.take a ++ c) → ¬ (∃ c, U.take a = V.take b ++ c) → lt (U.take a) (V.take b) = lt U V
  | U, V, 0, b, _, h2, _ => absurd ⟨V.take b, by simp⟩ h2
  | U, V, a + 1, 0, _, _, h3 => absurd ⟨U.take (a + 1), by simp⟩ h3
  | [], V, a + 1, b + 1, _, h2, _ => absurd ⟨V.take (b + 1), by simp⟩ h2
  | x :: r, [], a + 1, b + 1, _, _, h3 => absurd ⟨(x :: r).take (a + 1), by simp⟩ h3
  | x :: r, y :: s, a + 1, b + 1, h1, h2, h3 => by
    simp only [List.take_succ_cons] at *
    rw [lt_cons, lt_cons]
    by_cases e : x = y
    · subst e
      rw [if_pos rfl, if_pos rfl]
      refine lt_prefix r s a b (fun h => h1 (by rw [h])) (fun ⟨c, h⟩ => h2 ⟨c, by rw [h]; rfl⟩) (fun ⟨c, h⟩ => h3 ⟨c, by rw [h]; rfl⟩)
    · rw [if_neg e, if_neg e]

/-- A piece is a beginning of the suffix's signs. -/
theorem piece_take {xs : List Int} {p q : Nat} (hpq : p ≤ q) (hp : p < xs.length) (hq : q ≤ xs.length) : piece xs p q = (full xs p).take (q + 1 - p) := by
  unfold piece full
  rcases Nat.lt_or_ge q xs.length with h | h
  · rw [if_neg (by omega), List.append_nil, Nat.min_eq_left (by omega), List.take_append_of_le_length (by simp [pieceTo]; omega)]
    unfold pieceTo
    rw [← List.map_take, List.take_range, Nat.min_eq_left (by omega)]
  · rw [if_pos h, Nat.min_eq_right (by omega), List.take_of_length_le (by simp [pieceTo]; omega)]
theorem piece_length {xs : List Int} {p q : Nat} (hpq : p ≤ q) (hp : p < xs.length) (hq : q ≤ xs.length) : (piece xs p q).length = q + 1 - p := by
  rw [piece_take hpq hp hq, List.length_take]
  unfold full
  simp [pieceTo]
  omega
theorem piece_at {xs : List Int} {p q i : Nat} (hpq : p ≤ q) (hp : p < xs.length) (hq : q ≤ xs.length) (hi : p + i ≤ q) : (piece xs p q)[i]? = if p + i < xs.length then some (code xs (p + i)) else some (-1) := by
  rw [piece_take hpq hp hq, List.getElem?_take, if_pos (by omega)]
  unfold full
  split
  · rw [List.getElem?_append_left (by simp [pieceTo]; omega)]
    simp [pieceTo, show i < xs.length - p by omega]
  · rw [List.getElem?_append_right (by simp [pieceTo]; omega)]
    simp [pieceTo, show i - (xs.length - p) = 0 by omega]

/-- The i-th mark, and where its piece ends. -/
def mk (xs : List Int) (i : Nat) : Nat := ((marks xs).getD i 0).toNat
def nx (xs : List Int) (i : Nat) : Nat := if i + 1 < (marks xs).length then mk xs (i + 1) else xs.length
theorem pc_mk (xs : List Int) (i : Nat) : pc xs i = piece xs (mk xs i) (nx xs i) := rfl
theorem mk_lt {xs : List Int} {i : Nat} (h : i < (marks xs).length) : mk xs i < xs.length ∧ isMark xs (mk xs i) = true := by
  obtain ⟨p, hp, h1, h2⟩ := marks_at h
  unfold mk; rw [hp, Int.toNat_natCast]; exact ⟨h1, h2⟩
theorem mk_next {xs : List Int} {i : Nat} (h : i + 1 < (marks xs).length) : mk xs i < mk xs (i + 1) := by
  have := marks_next h
  obtain ⟨p, hp, _⟩ := marks_at (show i < (marks xs).length by omega)
  obtain ⟨q, hq, _⟩ := marks_at h
  unfold mk; omega
theorem mk_nx {xs : List Int} {i : Nat} (h : i < (marks xs).length) : mk xs i < nx xs i ∧ nx xs i ≤ xs.length := by
  unfold nx
  split
  · rename_i h1
    exact ⟨mk_next h1, Nat.le_of_lt (mk_lt h1).1⟩
  · exact ⟨(mk_lt h).1, Nat.le_refl _⟩
theorem marks_all {xs : List Int} {r : Nat} (hr : r < xs.length) (hm : isMark xs r = true) : ∃ j, j < (marks xs).length ∧ mk xs j = r := by
  have : (r : Int) ∈ marks xs := by
    unfold marks marksTo
    exact List.mem_map.2 ⟨r, List.mem_filter.2 ⟨List.mem_range.2 hr, hm⟩, rfl⟩
  obtain ⟨j, hj, he⟩ := List.getElem_of_mem this
  exact ⟨j, hj, by unfold mk; rw [List.getD, List.getElem?_eq_getElem hj, he]; simp⟩
theorem mk_mono {xs : List Int} : ∀ (d i : Nat), i + d < (marks xs).length → mk xs i ≤ mk xs (i + d)
  | 0, _, _ => Nat.le_refl _
  | d + 1, i, h => by
    have h1 := mk_mono (xs := xs) d i (by omega)
    have h2 := mk_next (xs := xs) (i := i + d) (by omega)
    rw [show i + (d + 1) = i + d + 1 by omega]
    omega
/-- No mark lies inside a piece. -/
theorem no_mark {xs : List Int} {i r : Nat} (h : i < (marks xs).length) (h1 : mk xs i < r) (h2 : r < nx xs i) : isMark xs r = false := by
  cases e : isMark xs r with
  | false => rfl
  | true =>
    exfalso
    obtain ⟨j, hj, rfl⟩ := marks_all (Nat.lt_of_lt_of_le h2 (mk_nx h).2) e
    rcases Nat.lt_or_ge i j with hij | hij
    · unfold nx at h2
      rw [if_pos (by omega)] at h2
      have := mk_mono (xs := xs) (j - (i + 1)) (i + 1) (by omega)
      rw [show i + 1 + (j - (i + 1)) = j by omega] at this
      omega
    · have := mk_mono (xs := xs) (i - j) j (by omega)
      rw [show j + (i - j) = i by omega] at this
      omega

theorem mark_iff (xs : List Int) (p : Nat) : isMark xs p = true ↔ 0 < p ∧ gt xs p = false ∧ gt xs (p - 1) = true := by
  unfold isMark
  rw [decide_eq_true_iff]
  unfold kd
  constructor
  · intro h
    split at h
    · omega
    · rename_i h1
      split at h
      · rename_i h2
        exact ⟨h2.1, by simpa using h1, h2.2⟩
      · omega
  · rintro ⟨h1, h2, h3⟩
    rw [if_neg (by rw [h2]; simp), if_pos ⟨h1, h3⟩]
theorem code_L {xs : List Int} {p q : Nat} (h : code xs p = code xs q) : gt xs p = gt xs q := by
  unfold code at h
  rcases Classical.em (kd xs p = 76) with e1 | e1
  · rcases Classical.em (kd xs q = 76) with e2 | e2
    · rw [(kd_L_iff xs p).1 e1, (kd_L_iff xs q).1 e2]
    · rw [if_pos e1, if_neg e2] at h; omega
  · rcases Classical.em (kd xs q = 76) with e2 | e2
    · rw [if_neg e1, if_pos e2] at h; omega
    · have g1 : gt xs p = false := by
        cases e : gt xs p with
        | false => rfl
        | true => exact absurd ((kd_L_iff xs p).2 e) e1
      have g2 : gt xs q = false := by
        cases e : gt xs q with
        | false => rfl
        | true => exact absurd ((kd_L_iff xs q).2 e) e2
      rw [g1, g2]

/-- No piece begins like another one and ends first. -/
theorem no_prefix {xs : List Int} {i j : Nat} (hi : i < (marks xs).length) (hj : j < (marks xs).length) (hne : pc xs i ≠ pc xs j) : ¬ ∃ c, pc xs j = pc xs i ++ c := by
  rintro ⟨c, hc⟩
  have hmi := mk_lt hi
  have hmj := mk_lt hj
  have hni := mk_nx hi
  have hnj := mk_nx hj
  have li := piece_length (xs := xs) (p := mk xs i) (q := nx xs i) (by omega) hmi.1 hni.2
  have lj := piece_length (xs := xs) (p := mk xs j) (q := nx xs j) (by omega) hmj.1 hnj.2
  rw [← pc_mk] at li lj
  have hcl : 0 < c.length := by
    rcases Nat.eq_zero_or_pos c.length with h | h
    · rw [List.eq_nil_of_length_eq_zero h, List.append_nil] at hc; exact absurd hc.symm hne
    · exact h
  have hlen := congrArg List.length hc
  rw [List.length_append, li, lj] at hlen
  have hat : ∀ r, mk xs i + r ≤ nx xs i → (pc xs i)[r]? = (pc xs j)[r]? := by
    intro r hr
    rw [hc, List.getElem?_append_left (by rw [li]; omega)]
  have hat2 : ∀ r, mk xs i + r ≤ nx xs i → (if mk xs i + r < xs.length then some (code xs (mk xs i + r)) else some (-1)) = if mk xs j + r < xs.length then some (code xs (mk xs j + r)) else some (-1) := by
    intro r hr
    have h := hat r hr
    rw [pc_mk, pc_mk, piece_at (by omega) hmi.1 hni.2 hr, piece_at (by omega) hmj.1 hnj.2 (by omega)] at h
    exact h
  have hE := hat2 (nx xs i - mk xs i) (by omega)
  rw [show mk xs i + (nx xs i - mk xs i) = nx xs i by omega] at hE
  have hjE : mk xs j + (nx xs i - mk xs i) < nx xs j := by omega
  have hjlt : mk xs j + (nx xs i - mk xs i) < xs.length := by omega
  rw [if_pos hjlt] at hE
  by_cases hl : i + 1 < (marks xs).length
  · have hnm : nx xs i = mk xs (i + 1) := by unfold nx; rw [if_pos hl]
    have hmn := mk_lt hl
    rw [← hnm] at hmn
    rw [if_pos hmn.1] at hE
    obtain ⟨g0, g1, g2⟩ := (mark_iff xs _).1 hmn.2
    have hE2 := hat2 (nx xs i - mk xs i - 1) (by omega)
    rw [if_pos (by omega), if_pos (by omega)] at hE2
    have c1 := code_L (Option.some.inj hE)
    have c2 := code_L (Option.some.inj hE2)
    rw [show mk xs i + (nx xs i - mk xs i - 1) = nx xs i - 1 by omega] at c2
    have hm : isMark xs (mk xs j + (nx xs i - mk xs i)) = true := by
      refine (mark_iff xs _).2 ⟨by omega, by rw [← c1]; exact g1, ?_⟩
      rw [show mk xs j + (nx xs i - mk xs i) - 1 = mk xs j + (nx xs i - mk xs i - 1) by omega, ← c2]
      exact g2
    rw [no_mark hj (by omega) hjE] at hm
    cases hm
  · have hnm : nx xs i = xs.length := by unfold nx; rw [if_neg hl]
    rw [if_neg (by omega)] at hE
    have := code_nonneg xs (mk xs j + (nx xs i - mk xs i))
    have h := Option.some.inj hE
    omega

/-- Pieces that differ are ordered as their suffixes are. -/
theorem pc_lt {xs : List Int} {i j : Nat} (hi : i < (marks xs).length) (hj : j < (marks xs).length) (hne : pc xs i ≠ pc xs j) : lt (pc xs i) (pc xs j) = lt (xs.drop (mk xs i)) (xs.drop (mk xs j)) := by
  have hmi := mk_lt hi
  have hmj := mk_lt hj
  have hni := mk_nx hi
  have hnj := mk_nx hj
  have h1 := no_prefix hi hj hne
  have h2 := no_prefix hj hi (Ne.symm hne)
  rw [← full_lt _ _ _ rfl (Nat.le_of_lt hmi.1) (Nat.le_of_lt hmj.1)]
  rw [pc_mk, pc_mk, piece_take (by omega) hmi.1 hni.2, piece_take (by omega) hmj.1 hnj.2] at *
  exact lt_prefix _ _ _ _ hne h1 h2

/-! ### Names -/

theorem hadTo_false {xs : List Int} {j k : Nat} : hadTo xs j k = false ↔ ∀ m, m < k → pc xs m ≠ pc xs j := by
  unfold hadTo
  rw [List.any_eq_false]
  constructor
  · intro h m hm e
    exact h m (List.mem_range.2 hm) (by rw [e]; exact beq_self_eq_true _)
  · intro h m hm e
    exact h m (List.mem_range.1 hm) (by simpa using e)
theorem first_had {xs : List Int} : ∀ i, ∃ m, m ≤ i ∧ pc xs m = pc xs i ∧ hadTo xs m m = false := by
  intro i
  induction i using Nat.strongRecOn with
  | ind i ih =>
    cases h : hadTo xs i i with
    | false => exact ⟨i, Nat.le_refl _, rfl, h⟩
    | true =>
      have hn : ¬ ∀ m, m < i → pc xs m ≠ pc xs i := fun h2 => by rw [hadTo_false.2 h2] at h; cases h
      obtain ⟨m, hm⟩ := Classical.not_forall.1 hn
      obtain ⟨hm1, hm2⟩ := Classical.not_imp.1 hm
      have hm3 : pc xs m = pc xs i := Classical.not_not.1 hm2
      obtain ⟨m', h1, h2, h3⟩ := ih m hm1
      exact ⟨m', by omega, h2.trans hm3, h3⟩

/-- The name of the i-th mark. -/
def nm (xs : List Int) (i : Nat) : Nat := nameCnt xs i (marks xs).length
theorem names_at {xs : List Int} {i : Nat} (h : i < (marks xs).length) : (names xs)[i]? = some (nm xs i : Int) := by simp [names, nm, h]
theorem nm_lt {xs : List Int} {i j : Nat} (hi : i < (marks xs).length) (h : lt (pc xs i) (pc xs j) = true) : nm xs i < nm xs j := by
  obtain ⟨m, hm, he, hf⟩ := first_had (xs := xs) i
  unfold nm nameCnt
  refine countP_lt_of (fun k _ hk => ?_) ⟨m, List.mem_range.2 (by omega), ?_, ?_⟩
  · simp only [Bool.and_eq_true] at hk ⊢
    exact ⟨lt_trans _ _ _ hk.1 h, hk.2⟩
  · rw [he, lt_irrefl]; rfl
  · rw [he, h, hf]; rfl
theorem nm_eq {xs : List Int} {i j : Nat} (h : pc xs i = pc xs j) : nm xs i = nm xs j := by
  unfold nm nameCnt; rw [h]
theorem nm_lt_iff {xs : List Int} {i j : Nat} (hi : i < (marks xs).length) (hj : j < (marks xs).length) : nm xs i < nm xs j ↔ lt (pc xs i) (pc xs j) = true := by
  constructor
  · intro h
    rcases lt_total (pc xs i) (pc xs j) with h1 | h1 | h1
    · exact h1
    · have := nm_lt hj h1; omega
    · have := nm_eq h1; omega
  · exact nm_lt hi
theorem nm_eq_iff {xs : List Int} {i j : Nat} (hi : i < (marks xs).length) (hj : j < (marks xs).length) : nm xs i = nm xs j ↔ pc xs i = pc xs j := by
  constructor
  · intro h
    rcases lt_total (pc xs i) (pc xs j) with h1 | h1 | h1
    · have := nm_lt hi h1; omega
    · have := nm_lt hj h1; omega
    · exact h1
  · exact nm_eq
theorem names_drop {xs : List Int} {i : Nat} (h : i < (marks xs).length) : (names xs).drop i = (nm xs i : Int) :: (names xs).drop (i + 1) := by
  have hl : i < (names xs).length := by rw [names_length]; exact h
  rw [List.drop_eq_getElem_cons hl]
  congr 1
  have := names_at h
  rw [List.getElem?_eq_getElem hl] at this
  exact Option.some.inj this

/-- Pieces that are the same: on to the next marks. -/
theorem pc_same {xs : List Int} {i j : Nat} (hi : i < (marks xs).length) (hj : j < (marks xs).length) (he : pc xs i = pc xs j) (hij : i ≠ j) : i + 1 < (marks xs).length ∧ j + 1 < (marks xs).length ∧ lt (xs.drop (mk xs i)) (xs.drop (mk xs j)) = lt (xs.drop (mk xs (i + 1))) (xs.drop (mk xs (j + 1))) := by
  have hmi := mk_lt hi
  have hmj := mk_lt hj
  have hni := mk_nx hi
  have hnj := mk_nx hj
  have li := piece_length (xs := xs) (p := mk xs i) (q := nx xs i) (by omega) hmi.1 hni.2
  have lj := piece_length (xs := xs) (p := mk xs j) (q := nx xs j) (by omega) hmj.1 hnj.2
  rw [← pc_mk] at li lj
  rw [he, lj] at li
  have hmne : mk xs i ≠ mk xs j := by
    intro e
    rcases Nat.lt_or_ge i j with h | h
    · have h1 := mk_next (xs := xs) (i := i) (by omega)
      have h2 := mk_mono (xs := xs) (j - (i + 1)) (i + 1) (by omega)
      rw [show i + 1 + (j - (i + 1)) = j by omega] at h2
      omega
    · have h1 := mk_next (xs := xs) (i := j) (by omega)
      have h2 := mk_mono (xs := xs) (i - (j + 1)) (j + 1) (by omega)
      rw [show j + 1 + (i - (j + 1)) = i by omega] at h2
      omega
  have hat : ∀ r, mk xs i + r ≤ nx xs i → (if mk xs i + r < xs.length then some (code xs (mk xs i + r)) else some (-1)) = if mk xs j + r < xs.length then some (code xs (mk xs j + r)) else some (-1) := by
    intro r hr
    have h : (pc xs i)[r]? = (pc xs j)[r]? := by rw [he]
    rw [pc_mk, pc_mk, piece_at (by omega) hmi.1 hni.2 hr, piece_at (by omega) hmj.1 hnj.2 (by omega)] at h
    exact h
  have hE := hat (nx xs i - mk xs i) (by omega)
  have hil : i + 1 < (marks xs).length := by
    rcases Nat.lt_or_ge (i + 1) (marks xs).length with h | h
    · exact h
    · exfalso
      have hnm : nx xs i = xs.length := by unfold nx; rw [if_neg (by omega)]
      rw [if_neg (by omega)] at hE
      by_cases h2 : mk xs j + (nx xs i - mk xs i) < xs.length
      · rw [if_pos h2] at hE
        have := code_nonneg xs (mk xs j + (nx xs i - mk xs i))
        have := Option.some.inj hE
        omega
      · omega
  have hjl : j + 1 < (marks xs).length := by
    rcases Nat.lt_or_ge (j + 1) (marks xs).length with h | h
    · exact h
    · exfalso
      have hnm : nx xs j = xs.length := by unfold nx; rw [if_neg (by omega)]
      have hnm2 : nx xs i = mk xs (i + 1) := by unfold nx; rw [if_pos hil]
      have hlt := (mk_lt hil).1
      rw [if_pos (by omega), if_neg (by omega)] at hE
      have := code_nonneg xs (mk xs i + (nx xs i - mk xs i))
      have := Option.some.inj hE
      omega
  refine ⟨hil, hjl, ?_⟩
  have hni2 : nx xs i = mk xs (i + 1) := by unfold nx; rw [if_pos hil]
  have hnj2 : nx xs j = mk xs (j + 1) := by unfold nx; rw [if_pos hjl]
  have hlti := (mk_lt hil).1
  have hltj := (mk_lt hjl).1
  have step : ∀ r, mk xs i + r ≤ nx xs i → lt (full xs (mk xs i)) (full xs (mk xs j)) = lt (full xs (mk xs i + r)) (full xs (mk xs j + r)) := by
    intro r
    induction r with
    | zero => intro _; rfl
    | succ r ih =>
      intro hr
      rw [ih (by omega), full_cons (show mk xs i + r < xs.length by omega), full_cons (show mk xs j + r < xs.length by omega), lt_cons]
      have h := hat r (by omega)
      rw [if_pos (by omega), if_pos (by omega)] at h
      rw [if_pos (Option.some.inj h)]
      rfl
  have h := step (nx xs i - mk xs i) (by omega)
  rw [show mk xs i + (nx xs i - mk xs i) = mk xs (i + 1) by omega, show mk xs j + (nx xs i - mk xs i) = mk xs (j + 1) by omega] at h
  rw [full_lt _ _ _ rfl (by omega) (by omega), full_lt _ _ _ rfl (by omega) (by omega)] at h
  exact h

/-- The order of the text of names is that of the marks' suffixes. -/
theorem names_order {xs : List Int} : ∀ (k i j : Nat), (marks xs).length - i = k → i < (marks xs).length → j < (marks xs).length → lt ((names xs).drop i) ((names xs).drop j) = lt (xs.drop (mk xs i)) (xs.drop (mk xs j))
  | 0, i, j, hk, hi, _ => by omega
  | k + 1, i, j, hk, hi, hj => by
    by_cases hij : i = j
    · subst hij; rw [lt_irrefl, lt_irrefl]
    · rw [names_drop hi, names_drop hj, lt_cons]
      by_cases he : pc xs i = pc xs j
      · obtain ⟨h1, h2, h3⟩ := pc_same hi hj he hij
        rw [if_pos (by rw [nm_eq he]), h3, names_order k (i + 1) (j + 1) (by omega) h1 h2]
      · have hne : ¬ ((nm xs i : Int) = (nm xs j : Int)) := fun e => he ((nm_eq_iff hi hj).1 (by omega))
        rw [if_neg hne, ← pc_lt hi hj he]
        have := nm_lt_iff hi hj
        cases h : lt (pc xs i) (pc xs j) with
        | true => exact decide_eq_true (by have := this.2 h; omega)
        | false => exact decide_eq_false (fun h2 => by have := this.1 (by omega); rw [h] at this; cases this)

end Go.Proofs.Ytpioolbcilfijaa
