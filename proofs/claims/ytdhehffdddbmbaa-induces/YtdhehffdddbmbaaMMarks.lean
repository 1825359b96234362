/-
  MMarks: plain mathematics of marks, pieces, names, turns; why names carry the order; buckets; drawing in (P12 to P15). Nothing of the program.
-/
import Derived.Test.YtdhehffdddbmbaaMBase
/-! ## MNames -/

namespace Go.Proofs.Ytdhehffdddbmbaa

/-- Is there a mark at i? -/
def isMark (xs : List Int) (i : Nat) : Bool := decide (kd xs i = 77)
/-- The marks below n, from the left on. -/
def marksTo (xs : List Int) (n : Nat) : List Int := ((List.range n).filter (isMark xs)).map (fun i : Nat => (i : Int))
def marks (xs : List Int) : List Int := marksTo xs xs.length
theorem marksTo_succ (xs : List Int) (n : Nat) : marksTo xs (n + 1) = marksTo xs n ++ if isMark xs n = true then [(n : Int)] else [] := by
  unfold marksTo
  rw [List.range_succ, List.filter_append, List.map_append]
  congr 1
  by_cases h : isMark xs n = true
  · simp [h]
  · simp [h]
theorem marksTo_length_le (xs : List Int) (n : Nat) : (marksTo xs n).length ≤ n := by
  have := List.length_filter_le (isMark xs) (List.range n)
  simpa [marksTo] using this

theorem marks_mem {xs : List Int} {x : Int} (h : x ∈ marks xs) : ∃ p : Nat, x = p ∧ p < xs.length ∧ isMark xs p = true := by
  unfold marks marksTo at h
  obtain ⟨p, hp, rfl⟩ := List.mem_map.1 h
  rw [List.mem_filter, List.mem_range] at hp
  exact ⟨p, rfl, hp.1, hp.2⟩
theorem marks_at {xs : List Int} {i : Nat} (h : i < (marks xs).length) : ∃ p : Nat, (marks xs).getD i 0 = p ∧ p < xs.length ∧ isMark xs p = true := by
  have hm : (marks xs).getD i 0 ∈ marks xs := by
    rw [List.getD, List.getElem?_eq_getElem h]; exact List.getElem_mem _
  exact marks_mem hm
theorem marks_rise (xs : List Int) : (marks xs).Pairwise (· < ·) := by
  unfold marks marksTo
  refine List.Pairwise.map (R := (· < ·)) _ ?_ ((List.pairwise_lt_range (n := xs.length)).filter _)
  intro a b h
  show (a : Int) < b
  omega
theorem marks_next {xs : List Int} {i : Nat} (h : i + 1 < (marks xs).length) : (marks xs).getD i 0 < (marks xs).getD (i + 1) 0 := by
  have := List.pairwise_iff_getElem.1 (marks_rise xs) i (i + 1) (by omega) h (by omega)
  rw [List.getD, List.getD, List.getElem?_eq_getElem h, List.getElem?_eq_getElem (show i < (marks xs).length by omega)]
  exact this
theorem marks_length_le (xs : List Int) : (marks xs).length ≤ xs.length := marksTo_length_le xs xs.length

/-- What stands for the symbol at i in a piece: twice the symbol, and one more where there is no L. -/
def code (xs : List Int) (i : Nat) : Int := 2 * (dense xs).getD i 0 + if kd xs i = 76 then 0 else 1
/-- The piece from p to q, with q; with the end where q is the text's length or more. -/
def pieceTo (xs : List Int) (p n : Nat) : List Int := (List.range n).map (fun i => code xs (p + i))
def piece (xs : List Int) (p q : Nat) : List Int := pieceTo xs p (min (q + 1) xs.length - p) ++ if xs.length ≤ q then [-1] else []
theorem pieceTo_succ (xs : List Int) (p n : Nat) : pieceTo xs p (n + 1) = pieceTo xs p n ++ [code xs (p + n)] := by simp [pieceTo, List.range_succ]

/-- The piece of the i-th mark. -/
def pc (xs : List Int) (i : Nat) : List Int := piece xs ((marks xs).getD i 0).toNat (if i + 1 < (marks xs).length then ((marks xs).getD (i + 1) 0).toNat else xs.length)

/-- Has the piece of j stood before? -/
def hadTo (xs : List Int) (j k : Nat) : Bool := (List.range k).any (fun m => pc xs m == pc xs j)
/-- P12: how many different pieces are lesser. -/
def nameCnt (xs : List Int) (i j : Nat) : Nat := (List.range j).countP (fun m => lt (pc xs m) (pc xs i) && !hadTo xs m m)
def names (xs : List Int) : List Int := (List.range (marks xs).length).map (fun i => (nameCnt xs i (marks xs).length : Int))
theorem names_length (xs : List Int) : (names xs).length = (marks xs).length := by simp [names]
theorem hadTo_succ (xs : List Int) (j k : Nat) : hadTo xs j (k + 1) = (hadTo xs j k || pc xs k == pc xs j) := by simp [hadTo, List.range_succ]
theorem nameCnt_succ (xs : List Int) (i j : Nat) : nameCnt xs i (j + 1) = nameCnt xs i j + if (lt (pc xs j) (pc xs i) && !hadTo xs j j) = true then 1 else 0 := countP_range_succ _ _

/-- Is there a turn at p? -/
def isTurn (xs : List Int) (p : Nat) : Bool := decide (kd xs p ≠ 76) && decide (p + 1 < xs.length) && decide (kd xs (p + 1) = 76)
/-- P14, of the first n places of an order. -/
def turnsTo (xs L : List Int) (n : Nat) : List Int := (L.take n).filter (fun p => isTurn xs p.toNat)
theorem turnsTo_succ {xs L : List Int} {n : Nat} (h : n < L.length) : turnsTo xs L (n + 1) = turnsTo xs L n ++ if isTurn xs L[n].toNat = true then [L[n]] else [] := by
  unfold turnsTo
  rw [List.take_succ_eq_append_getElem h, List.filter_append]
  congr 1
  by_cases e : isTurn xs L[n].toNat = true
  · simp [e]
  · simp [e]
theorem turnsTo_length_le (xs L : List Int) (n : Nat) : (turnsTo xs L n).length ≤ n :=
  Nat.le_trans (List.length_filter_le _ _) (List.length_take_le _ _)

theorem isMark_zero (xs : List Int) : isMark xs 0 = false := by
  unfold isMark
  refine decide_eq_false ?_
  unfold kd
  split
  · omega
  · rw [if_neg (by simp)]; omega
theorem marksTo_short (xs : List Int) : ∀ n, 0 < n → (marksTo xs n).length < n
  | 0, h => by omega
  | 1, _ => by
    rw [marksTo_succ, isMark_zero]
    simp [marksTo]
  | n + 2, _ => by
    have ih := marksTo_short xs (n + 1) (by omega)
    rw [marksTo_succ, List.length_append]
    split <;> simp <;> omega
theorem names_short {xs : List Int} (h : 0 < xs.length) : (names xs).length < xs.length := by
  rw [names_length]; exact marksTo_short xs _ h

/-- P13, with fuel. -/
def lev (same : List Int → Bool) : Nat → List Int → Nat
  | 0, _ => 0
  | k + 1, ts => if ts.length = 0 then 0 else if same (names ts) = true then 0 else lev same k (names ts) + 1

end Go.Proofs.Ytdhehffdddbmbaa

/-! ## MLift -/

namespace Go.Proofs.Ytdhehffdddbmbaa

/-- An L is lesser than what is no L, where the symbols are the same. -/
theorem LS {xs : List Int} : ∀ (k a b : Nat), xs.length - a = k → (ha : a < xs.length) → (hb : b < xs.length) → gt xs a = true → gt xs b = false → xs[a] = xs[b] → lt (xs.drop a) (xs.drop b) = true
  | 0, a, b, hk, ha, _, _, _, _ => by omega
  | k + 1, a, b, hk, ha, hb, hga, hgb, he => by
    have hb1 : b + 1 < xs.length := by
      rcases Nat.lt_or_ge (b + 1) xs.length with h | h
      · exact h
      · rw [gt_last (show b + 1 = xs.length by omega)] at hgb; cases hgb
    rw [List.drop_eq_getElem_cons ha, List.drop_eq_getElem_cons hb, lt_cons, if_pos he]
    rcases Nat.lt_or_ge (a + 1) xs.length with ha1 | ha1
    · rw [List.drop_eq_getElem_cons ha1, List.drop_eq_getElem_cons hb1, lt_cons]
      have hA : xs[a + 1] < xs[a] ∨ (xs[a] = xs[a + 1] ∧ gt xs (a + 1) = true) := by
        by_cases e : xs[a] = xs[a + 1]
        · exact .inr ⟨e, by rw [← gt_same ha1 e]; exact hga⟩
        · rw [gt_other ha1 e] at hga; exact .inl (by simpa using hga)
      have hB : xs[b] < xs[b + 1] ∨ (xs[b] = xs[b + 1] ∧ gt xs (b + 1) = false) := by
        by_cases e : xs[b] = xs[b + 1]
        · exact .inr ⟨e, by rw [← gt_same hb1 e]; exact hgb⟩
        · rw [gt_other hb1 e] at hgb; simp at hgb; exact .inl (by omega)
      rcases hA with hA | ⟨eA, gA⟩
      · rw [if_neg (by omega)]
        refine decide_eq_true ?_
        rcases hB with hB | ⟨eB, _⟩ <;> omega
      · rcases hB with hB | ⟨eB, gB⟩
        · rw [if_neg (by omega)]; exact decide_eq_true (by omega)
        · rw [if_pos (by omega)]
          have ih := LS k (a + 1) (b + 1) (by omega) ha1 hb1 gA gB (by omega)
          rw [List.drop_eq_getElem_cons ha1, List.drop_eq_getElem_cons hb1, lt_cons, if_pos (by omega)] at ih
          exact ih
    · rw [List.drop_eq_nil_of_le (show xs.length ≤ a + 1 by omega), lt_nil]
      simp; omega

/-- Symbols and their numbers are ordered alike. -/
theorem dense_lt {xs : List Int} {p q : Nat} (hp : p < xs.length) (hq : q < xs.length) : (dense xs).getD p 0 < (dense xs).getD q 0 ↔ xs[p] < xs[q] := by
  have e : ∀ i (hi : i < xs.length), (dense xs).getD i 0 = (cl (dis xs) xs[i] : Int) := fun i hi => by simp [dense, List.getD, hi]
  rw [e p hp, e q hq]
  constructor
  · intro h
    rcases Int.lt_or_le xs[p] xs[q] with h1 | h1
    · exact h1
    · exfalso
      have : cl (dis xs) xs[q] ≤ cl (dis xs) xs[p] := by
        unfold cl
        exact countP_le_of (fun x _ hx => by simp at hx ⊢; omega)
      omega
  · intro h
    have : cl (dis xs) xs[p] < cl (dis xs) xs[q] := by
      unfold cl
      refine countP_lt_of (fun x _ hx => by simp at hx ⊢; omega) ⟨xs[p], (mem_dis _ _).2 (List.getElem_mem hp), by simp, by simpa using h⟩
    omega
theorem dense_eq {xs : List Int} {p q : Nat} (hp : p < xs.length) (hq : q < xs.length) : (dense xs).getD p 0 = (dense xs).getD q 0 ↔ xs[p] = xs[q] := by
  have h1 := dense_lt hp hq
  have h2 := dense_lt hq hp
  omega
theorem dense_nonneg (xs : List Int) (p : Nat) : 0 ≤ (dense xs).getD p 0 := by
  rcases Nat.lt_or_ge p xs.length with h | h
  · simp [dense, List.getD, h]
  · rw [List.getD, List.getElem?_eq_none (by rw [dense_length]; exact h)]; simp

theorem kd_L_iff (xs : List Int) (i : Nat) : kd xs i = 76 ↔ gt xs i = true := by
  unfold kd
  constructor
  · intro h
    split at h
    · assumption
    · split at h <;> omega
  · intro h; rw [if_pos h]
theorem code_nonneg (xs : List Int) (i : Nat) : 0 ≤ code xs i := by
  unfold code
  have := dense_nonneg xs i
  split <;> omega

/-- The whole suffix at p in the pieces' signs, with the end. -/
def full (xs : List Int) (p : Nat) : List Int := pieceTo xs p (xs.length - p) ++ [-1]
theorem pieceTo_cons (xs : List Int) (p n : Nat) : pieceTo xs p (n + 1) = code xs p :: pieceTo xs (p + 1) n := by
  unfold pieceTo
  rw [List.range_succ_eq_map, List.map_cons, List.map_map]
  congr 1
  apply List.map_congr_left
  intro i _
  simp only [Function.comp]
  congr 1
  omega
theorem full_cons {xs : List Int} {p : Nat} (h : p < xs.length) : full xs p = code xs p :: full xs (p + 1) := by
  unfold full
  rw [show xs.length - p = (xs.length - (p + 1)) + 1 by omega, pieceTo_cons]
  rfl
theorem full_end {xs : List Int} {p : Nat} (h : xs.length ≤ p) : full xs p = [-1] := by
  unfold full
  rw [show xs.length - p = 0 by omega]
  rfl

/-- Suffixes are ordered as their signs are. -/
theorem full_lt {xs : List Int} : ∀ (k p q : Nat), xs.length - p = k → p ≤ xs.length → q ≤ xs.length → lt (full xs p) (full xs q) = lt (xs.drop p) (xs.drop q)
  | 0, p, q, hk, hp, hq => by
    rw [full_end (show xs.length ≤ p by omega), List.drop_eq_nil_of_le (show xs.length ≤ p by omega), lt_nil]
    rcases Nat.lt_or_ge q xs.length with h | h
    · rw [full_cons h, lt_cons]
      have := code_nonneg xs q
      rw [if_neg (by omega)]
      have h1 : (-1 : Int) < code xs q := by omega
      have h2 : 0 < (xs.drop q).length := by simp; omega
      rw [decide_eq_true h1, decide_eq_true h2]
    · rw [full_end h, lt_irrefl, List.drop_eq_nil_of_le h]; rfl
  | k + 1, p, q, hk, hp, hq => by
    have hp1 : p < xs.length := by omega
    rcases Nat.lt_or_ge q xs.length with h | h
    · rw [full_cons hp1, full_cons h, lt_cons, List.drop_eq_getElem_cons hp1, List.drop_eq_getElem_cons h, lt_cons]
      have ih := full_lt (xs := xs) k (p + 1) (q + 1) (by omega) (by omega) (by omega)
      have hd := dense_lt hp1 h
      have he := dense_eq hp1 h
      by_cases hs : xs[p] = xs[q]
      · rw [if_pos hs]
        have hdd := he.2 hs
        cases gp : gt xs p with
        | true =>
          cases gq : gt xs q with
          | true =>
            rw [if_pos (by unfold code; rw [if_pos ((kd_L_iff xs p).2 gp), if_pos ((kd_L_iff xs q).2 gq), hdd]), ih]
          | false =>
            have hnq : ¬ kd xs q = 76 := fun e => by rw [(kd_L_iff xs q).1 e] at gq; cases gq
            have hc : code xs p < code xs q := by unfold code; rw [if_pos ((kd_L_iff xs p).2 gp), if_neg hnq, hdd]; omega
            rw [if_neg (by omega), decide_eq_true hc]
            have := LS _ p q rfl hp1 h gp gq hs
            rw [List.drop_eq_getElem_cons hp1, List.drop_eq_getElem_cons h, lt_cons, if_pos hs] at this
            exact this.symm
        | false =>
          have hnp : ¬ kd xs p = 76 := fun e => by rw [(kd_L_iff xs p).1 e] at gp; cases gp
          cases gq : gt xs q with
          | true =>
            have hc : code xs q < code xs p := by unfold code; rw [if_neg hnp, if_pos ((kd_L_iff xs q).2 gq), hdd]; omega
            rw [if_neg (by omega), decide_eq_false (by omega)]
            have := LS _ q p rfl h hp1 gq gp hs.symm
            rw [List.drop_eq_getElem_cons hp1, List.drop_eq_getElem_cons h, lt_cons, if_pos hs.symm] at this
            exact (lt_asymm _ _ this).symm
          | false =>
            have hnq : ¬ kd xs q = 76 := fun e => by rw [(kd_L_iff xs q).1 e] at gq; cases gq
            rw [if_pos (by unfold code; rw [if_neg hnp, if_neg hnq, hdd]), ih]
      · rw [if_neg hs]
        have hne : ¬ (dense xs).getD p 0 = (dense xs).getD q 0 := fun e => hs (he.1 e)
        have hc : code xs p < code xs q ↔ (dense xs).getD p 0 < (dense xs).getD q 0 := by
          unfold code
          split <;> split <;> omega
        have hcn : ¬ code xs p = code xs q := by
          unfold code
          split <;> split <;> omega
        rw [if_neg hcn]
        exact decide_eq_decide.2 (hc.trans hd)
    · rw [full_cons hp1, full_end h, List.drop_eq_nil_of_le h, lt_to_nil, lt_cons]
      have := code_nonneg xs p
      rw [if_neg (by omega)]
      exact decide_eq_false (by omega)

/-- Beginnings of two lists that part inside both. -/
theorem lt_prefix : ∀ (U V : List Int) (a b : Nat), U.take a ≠ V.take b → ¬ (∃ c, V.take b = U.take a ++ c) → ¬ (∃ c, U.take a = V.take b ++ c) → lt (U.take a) (V.take b) = lt U V
  | U, V, 0, b, _, h2, _ => absurd ⟨V.take b, by simp⟩ h2
  | U, V, a + 1, 0, _, _, h3 => absurd ⟨U.take (a + 1), by simp⟩ h3
  | [], V, a + 1, b + 1, _, h2, _ => absurd ⟨V.take (b + 1), by simp⟩ h2
  | x :: r, [], a + 1, b + 1, _, _, h3 => absurd ⟨(x :: r).take (a + 1), by simp⟩ h3
  | x :: r, y :: s, a + 1, b + 1, h1, h2, h3 => by
    simp only [List.take_succ_cons] at *
    rw [lt_cons, lt_cons]
    by_cases e : x = y
    · subst e
      rw [if_pos rfl, if_pos rfl]
      refine lt_prefix r s a b (fun h => h1 (by rw [h])) (fun ⟨c, h⟩ => h2 ⟨c, by rw [h]; rfl⟩) (fun ⟨c, h⟩ => h3 ⟨c, by rw [h]; rfl⟩)
    · rw [if_neg e, if_neg e]

/-- A piece is a beginning of the suffix's signs. -/
theorem piece_take {xs : List Int} {p q : Nat} (hpq : p ≤ q) (hp : p < xs.length) (hq : q ≤ xs.length) : piece xs p q = (full xs p).take (q + 1 - p) := by
  unfold piece full
  rcases Nat.lt_or_ge q xs.length with h | h
  · rw [if_neg (by omega), List.append_nil, Nat.min_eq_left (by omega), List.take_append_of_le_length (by simp [pieceTo]; omega)]
    unfold pieceTo
    rw [← List.map_take, List.take_range, Nat.min_eq_left (by omega)]
  · rw [if_pos h, Nat.min_eq_right (by omega), List.take_of_length_le (by simp [pieceTo]; omega)]
theorem piece_length {xs : List Int} {p q : Nat} (hpq : p ≤ q) (hp : p < xs.length) (hq : q ≤ xs.length) : (piece xs p q).length = q + 1 - p := by
  rw [piece_take hpq hp hq, List.length_take]
  unfold full
  simp [pieceTo]
  omega
theorem piece_at {xs : List Int} {p q i : Nat} (hpq : p ≤ q) (hp : p < xs.length) (hq : q ≤ xs.length) (hi : p + i ≤ q) : (piece xs p q)[i]? = if p + i < xs.length then some (code xs (p + i)) else some (-1) := by
  rw [piece_take hpq hp hq, List.getElem?_take, if_pos (by omega)]
  unfold full
  split
  · rw [List.getElem?_append_left (by simp [pieceTo]; omega)]
    simp [pieceTo, show i < xs.length - p by omega]
  · rw [List.getElem?_append_right (by simp [pieceTo]; omega)]
    simp [pieceTo, show i - (xs.length - p) = 0 by omega]

/-- The i-th mark, and where its piece ends. -/
def mk (xs : List Int) (i : Nat) : Nat := ((marks xs).getD i 0).toNat
def nx (xs : List Int) (i : Nat) : Nat := if i + 1 < (marks xs).length then mk xs (i + 1) else xs.length
theorem pc_mk (xs : List Int) (i : Nat) : pc xs i = piece xs (mk xs i) (nx xs i) := rfl
theorem mk_lt {xs : List Int} {i : Nat} (h : i < (marks xs).length) : mk xs i < xs.length ∧ isMark xs (mk xs i) = true := by
  obtain ⟨p, hp, h1, h2⟩ := marks_at h
  unfold mk; rw [hp, Int.toNat_natCast]; exact ⟨h1, h2⟩
theorem mk_next {xs : List Int} {i : Nat} (h : i + 1 < (marks xs).length) : mk xs i < mk xs (i + 1) := by
  have := marks_next h
  obtain ⟨p, hp, _⟩ := marks_at (show i < (marks xs).length by omega)
  obtain ⟨q, hq, _⟩ := marks_at h
  unfold mk; omega
theorem mk_nx {xs : List Int} {i : Nat} (h : i < (marks xs).length) : mk xs i < nx xs i ∧ nx xs i ≤ xs.length := by
  unfold nx
  split
  · rename_i h1
    exact ⟨mk_next h1, Nat.le_of_lt (mk_lt h1).1⟩
  · exact ⟨(mk_lt h).1, Nat.le_refl _⟩
theorem marks_all {xs : List Int} {r : Nat} (hr : r < xs.length) (hm : isMark xs r = true) : ∃ j, j < (marks xs).length ∧ mk xs j = r := by
  have : (r : Int) ∈ marks xs := by
    unfold marks marksTo
    exact List.mem_map.2 ⟨r, List.mem_filter.2 ⟨List.mem_range.2 hr, hm⟩, rfl⟩
  obtain ⟨j, hj, he⟩ := List.getElem_of_mem this
  exact ⟨j, hj, by unfold mk; rw [List.getD, List.getElem?_eq_getElem hj, he]; simp⟩
theorem mk_mono {xs : List Int} : ∀ (d i : Nat), i + d < (marks xs).length → mk xs i ≤ mk xs (i + d)
  | 0, _, _ => Nat.le_refl _
  | d + 1, i, h => by
    have h1 := mk_mono (xs := xs) d i (by omega)
    have h2 := mk_next (xs := xs) (i := i + d) (by omega)
    rw [show i + (d + 1) = i + d + 1 by omega]
    omega
/-- No mark lies inside a piece. -/
theorem no_mark {xs : List Int} {i r : Nat} (h : i < (marks xs).length) (h1 : mk xs i < r) (h2 : r < nx xs i) : isMark xs r = false := by
  cases e : isMark xs r with
  | false => rfl
  | true =>
    exfalso
    obtain ⟨j, hj, rfl⟩ := marks_all (Nat.lt_of_lt_of_le h2 (mk_nx h).2) e
    rcases Nat.lt_or_ge i j with hij | hij
    · unfold nx at h2
      rw [if_pos (by omega)] at h2
      have := mk_mono (xs := xs) (j - (i + 1)) (i + 1) (by omega)
      rw [show i + 1 + (j - (i + 1)) = j by omega] at this
      omega
    · have := mk_mono (xs := xs) (i - j) j (by omega)
      rw [show j + (i - j) = i by omega] at this
      omega

theorem mark_iff (xs : List Int) (p : Nat) : isMark xs p = true ↔ 0 < p ∧ gt xs p = false ∧ gt xs (p - 1) = true := by
  unfold isMark
  rw [decide_eq_true_iff]
  unfold kd
  constructor
  · intro h
    split at h
    · omega
    · rename_i h1
      split at h
      · rename_i h2
        exact ⟨h2.1, by simpa using h1, h2.2⟩
      · omega
  · rintro ⟨h1, h2, h3⟩
    rw [if_neg (by rw [h2]; simp), if_pos ⟨h1, h3⟩]
theorem code_L {xs : List Int} {p q : Nat} (h : code xs p = code xs q) : gt xs p = gt xs q := by
  unfold code at h
  rcases Classical.em (kd xs p = 76) with e1 | e1
  · rcases Classical.em (kd xs q = 76) with e2 | e2
    · rw [(kd_L_iff xs p).1 e1, (kd_L_iff xs q).1 e2]
    · rw [if_pos e1, if_neg e2] at h; omega
  · rcases Classical.em (kd xs q = 76) with e2 | e2
    · rw [if_neg e1, if_pos e2] at h; omega
    · have g1 : gt xs p = false := by
        cases e : gt xs p with
        | false => rfl
        | true => exact absurd ((kd_L_iff xs p).2 e) e1
      have g2 : gt xs q = false := by
        cases e : gt xs q with
        | false => rfl
        | true => exact absurd ((kd_L_iff xs q).2 e) e2
      rw [g1, g2]

/-- No piece begins like another one and ends first. -/
theorem no_prefix {xs : List Int} {i j : Nat} (hi : i < (marks xs).length) (hj : j < (marks xs).length) (hne : pc xs i ≠ pc xs j) : ¬ ∃ c, pc xs j = pc xs i ++ c := by
  rintro ⟨c, hc⟩
  have hmi := mk_lt hi
  have hmj := mk_lt hj
  have hni := mk_nx hi
  have hnj := mk_nx hj
  have li := piece_length (xs := xs) (p := mk xs i) (q := nx xs i) (by omega) hmi.1 hni.2
  have lj := piece_length (xs := xs) (p := mk xs j) (q := nx xs j) (by omega) hmj.1 hnj.2
  rw [← pc_mk] at li lj
  have hcl : 0 < c.length := by
    rcases Nat.eq_zero_or_pos c.length with h | h
    · rw [List.eq_nil_of_length_eq_zero h, List.append_nil] at hc; exact absurd hc.symm hne
    · exact h
  have hlen := congrArg List.length hc
  rw [List.length_append, li, lj] at hlen
  have hat : ∀ r, mk xs i + r ≤ nx xs i → (pc xs i)[r]? = (pc xs j)[r]? := by
    intro r hr
    rw [hc, List.getElem?_append_left (by rw [li]; omega)]
  have hat2 : ∀ r, mk xs i + r ≤ nx xs i → (if mk xs i + r < xs.length then some (code xs (mk xs i + r)) else some (-1)) = if mk xs j + r < xs.length then some (code xs (mk xs j + r)) else some (-1) := by
    intro r hr
    have h := hat r hr
    rw [pc_mk, pc_mk, piece_at (by omega) hmi.1 hni.2 hr, piece_at (by omega) hmj.1 hnj.2 (by omega)] at h
    exact h
  have hE := hat2 (nx xs i - mk xs i) (by omega)
  rw [show mk xs i + (nx xs i - mk xs i) = nx xs i by omega] at hE
  have hjE : mk xs j + (nx xs i - mk xs i) < nx xs j := by omega
  have hjlt : mk xs j + (nx xs i - mk xs i) < xs.length := by omega
  rw [if_pos hjlt] at hE
  by_cases hl : i + 1 < (marks xs).length
  · have hnm : nx xs i = mk xs (i + 1) := by unfold nx; rw [if_pos hl]
    have hmn := mk_lt hl
    rw [← hnm] at hmn
    rw [if_pos hmn.1] at hE
    obtain ⟨g0, g1, g2⟩ := (mark_iff xs _).1 hmn.2
    have hE2 := hat2 (nx xs i - mk xs i - 1) (by omega)
    rw [if_pos (by omega), if_pos (by omega)] at hE2
    have c1 := code_L (Option.some.inj hE)
    have c2 := code_L (Option.some.inj hE2)
    rw [show mk xs i + (nx xs i - mk xs i - 1) = nx xs i - 1 by omega] at c2
    have hm : isMark xs (mk xs j + (nx xs i - mk xs i)) = true := by
      refine (mark_iff xs _).2 ⟨by omega, by rw [← c1]; exact g1, ?_⟩
      rw [show mk xs j + (nx xs i - mk xs i) - 1 = mk xs j + (nx xs i - mk xs i - 1) by omega, ← c2]
      exact g2
    rw [no_mark hj (by omega) hjE] at hm
    cases hm
  · have hnm : nx xs i = xs.length := by unfold nx; rw [if_neg hl]
    rw [if_neg (by omega)] at hE
    have := code_nonneg xs (mk xs j + (nx xs i - mk xs i))
    have h := Option.some.inj hE
    omega

/-- Pieces that differ are ordered as their suffixes are. -/
theorem pc_lt {xs : List Int} {i j : Nat} (hi : i < (marks xs).length) (hj : j < (marks xs).length) (hne : pc xs i ≠ pc xs j) : lt (pc xs i) (pc xs j) = lt (xs.drop (mk xs i)) (xs.drop (mk xs j)) := by
  have hmi := mk_lt hi
  have hmj := mk_lt hj
  have hni := mk_nx hi
  have hnj := mk_nx hj
  have h1 := no_prefix hi hj hne
  have h2 := no_prefix hj hi (Ne.symm hne)
  rw [← full_lt _ _ _ rfl (Nat.le_of_lt hmi.1) (Nat.le_of_lt hmj.1)]
  rw [pc_mk, pc_mk, piece_take (by omega) hmi.1 hni.2, piece_take (by omega) hmj.1 hnj.2] at *
  exact lt_prefix _ _ _ _ hne h1 h2

/-! ### Names -/

theorem hadTo_false {xs : List Int} {j k : Nat} : hadTo xs j k = false ↔ ∀ m, m < k → pc xs m ≠ pc xs j := by
  unfold hadTo
  rw [List.any_eq_false]
  constructor
  · intro h m hm e
    exact h m (List.mem_range.2 hm) (by rw [e]; exact beq_self_eq_true _)
  · intro h m hm e
    exact h m (List.mem_range.1 hm) (by simpa using e)
theorem first_had {xs : List Int} : ∀ i, ∃ m, m ≤ i ∧ pc xs m = pc xs i ∧ hadTo xs m m = false := by
  intro i
  induction i using Nat.strongRecOn with
  | ind i ih =>
    cases h : hadTo xs i i with
    | false => exact ⟨i, Nat.le_refl _, rfl, h⟩
    | true =>
      have hn : ¬ ∀ m, m < i → pc xs m ≠ pc xs i := fun h2 => by rw [hadTo_false.2 h2] at h; cases h
      obtain ⟨m, hm⟩ := Classical.not_forall.1 hn
      obtain ⟨hm1, hm2⟩ := Classical.not_imp.1 hm
      have hm3 : pc xs m = pc xs i := Classical.not_not.1 hm2
      obtain ⟨m', h1, h2, h3⟩ := ih m hm1
      exact ⟨m', by omega, h2.trans hm3, h3⟩

/-- The name of the i-th mark. -/
def nm (xs : List Int) (i : Nat) : Nat := nameCnt xs i (marks xs).length
theorem names_at {xs : List Int} {i : Nat} (h : i < (marks xs).length) : (names xs)[i]? = some (nm xs i : Int) := by simp [names, nm, h]
theorem nm_lt {xs : List Int} {i j : Nat} (hi : i < (marks xs).length) (h : lt (pc xs i) (pc xs j) = true) : nm xs i < nm xs j := by
  obtain ⟨m, hm, he, hf⟩ := first_had (xs := xs) i
  unfold nm nameCnt
  refine countP_lt_of (fun k _ hk => ?_) ⟨m, List.mem_range.2 (by omega), ?_, ?_⟩
  · simp only [Bool.and_eq_true] at hk ⊢
    exact ⟨lt_trans _ _ _ hk.1 h, hk.2⟩
  · rw [he, lt_irrefl]; rfl
  · rw [he, h, hf]; rfl
theorem nm_eq {xs : List Int} {i j : Nat} (h : pc xs i = pc xs j) : nm xs i = nm xs j := by
  unfold nm nameCnt; rw [h]
theorem nm_lt_iff {xs : List Int} {i j : Nat} (hi : i < (marks xs).length) (hj : j < (marks xs).length) : nm xs i < nm xs j ↔ lt (pc xs i) (pc xs j) = true := by
  constructor
  · intro h
    rcases lt_total (pc xs i) (pc xs j) with h1 | h1 | h1
    · exact h1
    · have := nm_lt hj h1; omega
    · have := nm_eq h1; omega
  · exact nm_lt hi
theorem nm_eq_iff {xs : List Int} {i j : Nat} (hi : i < (marks xs).length) (hj : j < (marks xs).length) : nm xs i = nm xs j ↔ pc xs i = pc xs j := by
  constructor
  · intro h
    rcases lt_total (pc xs i) (pc xs j) with h1 | h1 | h1
    · have := nm_lt hi h1; omega
    · have := nm_lt hj h1; omega
    · exact h1
  · exact nm_eq
theorem names_drop {xs : List Int} {i : Nat} (h : i < (marks xs).length) : (names xs).drop i = (nm xs i : Int) :: (names xs).drop (i + 1) := by
  have hl : i < (names xs).length := by rw [names_length]; exact h
  rw [List.drop_eq_getElem_cons hl]
  congr 1
  have := names_at h
  rw [List.getElem?_eq_getElem hl] at this
  exact Option.some.inj this

/-- Pieces that are the same: on to the next marks. -/
theorem pc_same {xs : List Int} {i j : Nat} (hi : i < (marks xs).length) (hj : j < (marks xs).length) (he : pc xs i = pc xs j) (hij : i ≠ j) : i + 1 < (marks xs).length ∧ j + 1 < (marks xs).length ∧ lt (xs.drop (mk xs i)) (xs.drop (mk xs j)) = lt (xs.drop (mk xs (i + 1))) (xs.drop (mk xs (j + 1))) := by
  have hmi := mk_lt hi
  have hmj := mk_lt hj
  have hni := mk_nx hi
  have hnj := mk_nx hj
  have li := piece_length (xs := xs) (p := mk xs i) (q := nx xs i) (by omega) hmi.1 hni.2
  have lj := piece_length (xs := xs) (p := mk xs j) (q := nx xs j) (by omega) hmj.1 hnj.2
  rw [← pc_mk] at li lj
  rw [he, lj] at li
  have hmne : mk xs i ≠ mk xs j := by
    intro e
    rcases Nat.lt_or_ge i j with h | h
    · have h1 := mk_next (xs := xs) (i := i) (by omega)
      have h2 := mk_mono (xs := xs) (j - (i + 1)) (i + 1) (by omega)
      rw [show i + 1 + (j - (i + 1)) = j by omega] at h2
      omega
    · have h1 := mk_next (xs := xs) (i := j) (by omega)
      have h2 := mk_mono (xs := xs) (i - (j + 1)) (j + 1) (by omega)
      rw [show j + 1 + (i - (j + 1)) = i by omega] at h2
      omega
  have hat : ∀ r, mk xs i + r ≤ nx xs i → (if mk xs i + r < xs.length then some (code xs (mk xs i + r)) else some (-1)) = if mk xs j + r < xs.length then some (code xs (mk xs j + r)) else some (-1) := by
    intro r hr
    have h : (pc xs i)[r]? = (pc xs j)[r]? := by rw [he]
    rw [pc_mk, pc_mk, piece_at (by omega) hmi.1 hni.2 hr, piece_at (by omega) hmj.1 hnj.2 (by omega)] at h
    exact h
  have hE := hat (nx xs i - mk xs i) (by omega)
  have hil : i + 1 < (marks xs).length := by
    rcases Nat.lt_or_ge (i + 1) (marks xs).length with h | h
    · exact h
    · exfalso
      have hnm : nx xs i = xs.length := by unfold nx; rw [if_neg (by omega)]
      rw [if_neg (by omega)] at hE
      by_cases h2 : mk xs j + (nx xs i - mk xs i) < xs.length
      · rw [if_pos h2] at hE
        have := code_nonneg xs (mk xs j + (nx xs i - mk xs i))
        have := Option.some.inj hE
        omega
      · omega
  have hjl : j + 1 < (marks xs).length := by
    rcases Nat.lt_or_ge (j + 1) (marks xs).length with h | h
    · exact h
    · exfalso
      have hnm : nx xs j = xs.length := by unfold nx; rw [if_neg (by omega)]
      have hnm2 : nx xs i = mk xs (i + 1) := by unfold nx; rw [if_pos hil]
      have hlt := (mk_lt hil).1
      rw [if_pos (by omega), if_neg (by omega)] at hE
      have := code_nonneg xs (mk xs i + (nx xs i - mk xs i))
      have := Option.some.inj hE
      omega
  refine ⟨hil, hjl, ?_⟩
  have hni2 : nx xs i = mk xs (i + 1) := by unfold nx; rw [if_pos hil]
  have hnj2 : nx xs j = mk xs (j + 1) := by unfold nx; rw [if_pos hjl]
  have hlti := (mk_lt hil).1
  have hltj := (mk_lt hjl).1
  have step : ∀ r, mk xs i + r ≤ nx xs i → lt (full xs (mk xs i)) (full xs (mk xs j)) = lt (full xs (mk xs i + r)) (full xs (mk xs j + r)) := by
    intro r
    induction r with
    | zero => intro _; rfl
    | succ r ih =>
      intro hr
      rw [ih (by omega), full_cons (show mk xs i + r < xs.length by omega), full_cons (show mk xs j + r < xs.length by omega), lt_cons]
      have h := hat r (by omega)
      rw [if_pos (by omega), if_pos (by omega)] at h
      rw [if_pos (Option.some.inj h)]
      rfl
  have h := step (nx xs i - mk xs i) (by omega)
  rw [show mk xs i + (nx xs i - mk xs i) = mk xs (i + 1) by omega, show mk xs j + (nx xs i - mk xs i) = mk xs (j + 1) by omega] at h
  rw [full_lt _ _ _ rfl (by omega) (by omega), full_lt _ _ _ rfl (by omega) (by omega)] at h
  exact h

/-- The order of the text of names is that of the marks' suffixes. -/
theorem names_order {xs : List Int} : ∀ (k i j : Nat), (marks xs).length - i = k → i < (marks xs).length → j < (marks xs).length → lt ((names xs).drop i) ((names xs).drop j) = lt (xs.drop (mk xs i)) (xs.drop (mk xs j))
  | 0, i, j, hk, hi, _ => by omega
  | k + 1, i, j, hk, hi, hj => by
    by_cases hij : i = j
    · subst hij; rw [lt_irrefl, lt_irrefl]
    · rw [names_drop hi, names_drop hj, lt_cons]
      by_cases he : pc xs i = pc xs j
      · obtain ⟨h1, h2, h3⟩ := pc_same hi hj he hij
        rw [if_pos (by rw [nm_eq he]), h3, names_order k (i + 1) (j + 1) (by omega) h1 h2]
      · have hne : ¬ ((nm xs i : Int) = (nm xs j : Int)) := fun e => he ((nm_eq_iff hi hj).1 (by omega))
        rw [if_neg hne, ← pc_lt hi hj he]
        have := nm_lt_iff hi hj
        cases h : lt (pc xs i) (pc xs j) with
        | true => exact decide_eq_true (by have := this.2 h; omega)
        | false => exact decide_eq_false (fun h2 => by have := this.1 (by omega); rw [h] at this; cases this)

end Go.Proofs.Ytdhehffdddbmbaa

/-! ## MLifted -/

namespace Go.Proofs.Ytdhehffdddbmbaa

/-- The mark with that number. -/
def mkOf (xs : List Int) (j : Int) : Int := (marks xs).getD j.toNat 0
theorem mkOf_mk {xs : List Int} {j : Nat} (h : j < (marks xs).length) : mkOf xs j = mk xs j := by
  obtain ⟨p, hp, _, _⟩ := marks_at h
  unfold mkOf mk
  rw [Int.toNat_natCast, hp]; simp

/-- The marks of the order. -/
def ordMarks (xs L : List Int) : List Int := L.filter (fun p => isMark xs p.toNat)

theorem mem_ordMarks {xs L : List Int} (hL : Ord xs L) (x : Int) : x ∈ ordMarks xs L ↔ (0 ≤ x ∧ x < xs.length) ∧ isMark xs x.toNat = true := by
  unfold ordMarks
  rw [List.mem_filter, hL.2 x]
theorem mem_lifted {xs N : List Int} (hN : Ord (names xs) N) (x : Int) : x ∈ N.map (mkOf xs) ↔ (0 ≤ x ∧ x < xs.length) ∧ isMark xs x.toNat = true := by
  rw [List.mem_map]
  constructor
  · rintro ⟨j, hj, rfl⟩
    have h := (hN.2 j).1 hj
    rw [names_length] at h
    obtain ⟨j', rfl⟩ : ∃ j' : Nat, j = j' := ⟨j.toNat, by omega⟩
    have hj' : j' < (marks xs).length := by omega
    rw [mkOf_mk hj', Int.toNat_natCast]
    have := mk_lt hj'
    exact ⟨⟨by omega, by omega⟩, this.2⟩
  · rintro ⟨h, hm⟩
    obtain ⟨j, hj, he⟩ := marks_all (r := x.toNat) (by omega) hm
    refine ⟨(j : Int), (hN.2 _).2 ⟨by omega, by rw [names_length]; omega⟩, ?_⟩
    rw [mkOf_mk hj, he]; omega

theorem lifted_list {xs L N : List Int} (hL : Ord xs L) (hN : Ord (names xs) N) : N.map (mkOf xs) = ordMarks xs L := by
  have hp1 : (N.map (mkOf xs)).Pairwise (sl xs) := by
    rw [List.pairwise_map]
    refine hN.1.imp_of_mem (fun {a b} ha hb h => ?_)
    have ha' := (hN.2 a).1 ha
    have hb' := (hN.2 b).1 hb
    rw [names_length] at ha' hb'
    obtain ⟨i, rfl⟩ : ∃ i : Nat, a = i := ⟨a.toNat, by omega⟩
    obtain ⟨j, rfl⟩ : ∃ j : Nat, b = j := ⟨b.toNat, by omega⟩
    rw [mkOf_mk (by omega), mkOf_mk (by omega)]
    unfold sl at h ⊢
    rw [Int.toNat_natCast, Int.toNat_natCast] at h ⊢
    rw [← names_order _ i j rfl (by omega) (by omega)]
    exact h
  have hp2 : (ordMarks xs L).Pairwise (sl xs) := hL.1.filter _
  refine List.Perm.eq_of_pairwise (le := sl xs) ?_ hp1 hp2 ?_
  · intro a b _ _ h1 h2
    exact absurd h2 (sl_asymm h1)
  · rw [List.perm_ext_iff_of_nodup (sl_nodup hp1) (sl_nodup hp2)]
    intro x
    rw [mem_lifted hN, mem_ordMarks hL]

/-- Marks stand two places apart at the least. -/
theorem mk_apart {xs : List Int} : ∀ i, i < (marks xs).length → 2 * i + 1 ≤ mk xs i
  | 0, h => by
    have := (mark_iff xs (mk xs 0)).1 (mk_lt h).2
    omega
  | i + 1, h => by
    have ih := mk_apart (xs := xs) i (by omega)
    have hn := mk_next h
    have h1 := (mark_iff xs (mk xs (i + 1))).1 (mk_lt h).2
    have h2 := (mark_iff xs (mk xs i)).1 (mk_lt (show i < (marks xs).length by omega)).2
    rcases Nat.lt_or_ge (mk xs i + 1) (mk xs (i + 1)) with h3 | h3
    · omega
    · have : mk xs (i + 1) - 1 = mk xs i := by omega
      rw [this, h2.2.1] at h1
      exact absurd h1.2.2 (by simp)
theorem marks_half (xs : List Int) : 2 * (marks xs).length ≤ xs.length := by
  rcases Nat.eq_zero_or_pos (marks xs).length with h | h
  · omega
  · have h1 := mk_apart (xs := xs) ((marks xs).length - 1) (by omega)
    have h2 := (mk_lt (xs := xs) (i := (marks xs).length - 1) (by omega)).1
    omega
theorem names_range {xs : List Int} {x : Int} (h : x ∈ names xs) : 0 ≤ x ∧ x ≤ (marks xs).length := by
  unfold names at h
  obtain ⟨i, _, rfl⟩ := List.mem_map.1 h
  refine ⟨by omega, ?_⟩
  have := countP_range_le (fun m => lt (pc xs m) (pc xs i) && !hadTo xs m m) (marks xs).length
  unfold nameCnt
  omega

theorem gt_no {xs : List Int} {p : Nat} (hp : p < xs.length) : gt xs p = false ↔ lt (xs.drop p) (xs.drop (p + 1)) = true := by
  unfold gt
  constructor
  · intro h
    rcases lt_total (xs.drop p) (xs.drop (p + 1)) with h1 | h1 | h1
    · exact h1
    · rw [h] at h1; cases h1
    · have := congrArg List.length h1
      simp at this
      omega
  · exact lt_asymm _ _
/-- The statement's own way to tell a mark. -/
theorem mark_tell {xs : List Int} {p : Nat} (hp : p < xs.length) : isMark xs p = (decide (0 < p) && (lt (xs.drop p) (xs.drop (p + 1)) && (lt (xs.drop p) (xs.drop (p - 1)) && decide (p + 1 < xs.length)))) := by
  rw [Bool.eq_iff_iff, mark_iff]
  simp only [Bool.and_eq_true, decide_eq_true_eq]
  rw [gt_no hp]
  constructor
  · rintro ⟨h0, h1, h2⟩
    refine ⟨h0, h1, ?_, ?_⟩
    · unfold gt at h2; rwa [show p - 1 + 1 = p by omega] at h2
    · rcases Nat.lt_or_ge (p + 1) xs.length with h | h
      · exact h
      · rw [List.drop_eq_nil_of_le h, lt_to_nil] at h1; cases h1
  · rintro ⟨h0, h1, h2, _⟩
    refine ⟨h0, h1, ?_⟩
    unfold gt; rwa [show p - 1 + 1 = p by omega]

/-- How many of the first n of the order are marks. -/
def mcnt (xs L : List Int) (n : Nat) : Nat := ((L.take n).filter (fun p => isMark xs p.toNat)).length
theorem mcnt_yes {xs L : List Int} {n : Nat} (h : n < L.length) (hm : isMark xs L[n].toNat = true) : mcnt xs L (n + 1) = mcnt xs L n + 1 := by
  unfold mcnt
  rw [List.take_add_one, List.getElem?_eq_getElem h, Option.toList_some, List.filter_append, List.length_append]
  simp [hm]
theorem mcnt_no {xs L : List Int} {n : Nat} (h : n < L.length) (hm : isMark xs L[n].toNat = false) : mcnt xs L (n + 1) = mcnt xs L n := by
  unfold mcnt
  rw [List.take_add_one, List.getElem?_eq_getElem h, Option.toList_some, List.filter_append, List.length_append]
  simp [hm]
theorem mcnt_all {xs L N : List Int} (hL : Ord xs L) (hN : Ord (names xs) N) {n : Nat} (hn : L.length ≤ n) : mcnt xs L n = (marks xs).length := by
  unfold mcnt
  rw [List.take_of_length_le hn]
  have := congrArg List.length (lifted_list hL hN)
  rw [List.length_map, OrdTo.length hN, names_length] at this
  exact this.symm
theorem mcnt_le (xs L : List Int) (n : Nat) : mcnt xs L n ≤ n := by
  unfold mcnt
  refine Nat.le_trans (List.length_filter_le _ _) ?_
  simp; omega
theorem lifted_at {xs L N : List Int} (hL : Ord xs L) (hN : Ord (names xs) N) {n : Nat} (h : n < L.length) (hm : isMark xs L[n].toNat = true) :
    ∃ j : Nat, mcnt xs L n < (marks xs).length ∧ N.getD (mcnt xs L n) 0 = j ∧ j < (marks xs).length ∧ (marks xs).getD j 0 = L[n] := by
  have hF : (ordMarks xs L)[mcnt xs L n]? = some L[n] := by
    unfold ordMarks
    have e : L.filter (fun p => isMark xs p.toNat) = (L.take n).filter (fun p => isMark xs p.toNat) ++ (L.drop n).filter (fun p => isMark xs p.toNat) := by
      rw [← List.filter_append, List.take_append_drop]
    rw [e]
    unfold mcnt
    rw [List.getElem?_append_right (Nat.le_refl _), Nat.sub_self, List.drop_eq_getElem_cons h, List.filter_cons, if_pos hm]
    rfl
  rw [← lifted_list hL hN, List.getElem?_map] at hF
  have hlt : mcnt xs L n < N.length := by
    rcases Nat.lt_or_ge (mcnt xs L n) N.length with h1 | h1
    · exact h1
    · rw [List.getElem?_eq_none h1] at hF; cases hF
  have hNl := OrdTo.length hN
  rw [names_length] at hNl
  have hat := OrdTo.at hN (i := mcnt xs L n) (by rw [names_length]; omega)
  rw [names_length] at hat
  rw [List.getElem?_eq_getElem hlt, Option.map_some] at hF
  have e1 : N.getD (mcnt xs L n) 0 = N[mcnt xs L n] := by rw [List.getD, List.getElem?_eq_getElem hlt]; rfl
  refine ⟨(N.getD (mcnt xs L n) 0).toNat, by omega, by omega, by omega, ?_⟩
  rw [e1]
  exact Option.some.inj hF

end Go.Proofs.Ytdhehffdddbmbaa

/-! ## MBuck -/

namespace Go.Proofs.Ytdhehffdddbmbaa

/-- How many of the first n. -/
def cnt (n : Nat) (P : Nat → Bool) : Nat := (List.range n).countP P
theorem cnt_congr {n : Nat} {P Q : Nat → Bool} (h : ∀ q, q < n → P q = Q q) : cnt n P = cnt n Q := by
  unfold cnt
  exact List.countP_congr (fun q hq => by rw [h q (List.mem_range.1 hq)])
theorem cnt_succ (n : Nat) (P : Nat → Bool) : cnt (n + 1) P = cnt n P + if P n = true then 1 else 0 := countP_range_succ P n
theorem cnt_split (P Q : Nat → Bool) : ∀ n, cnt n P = cnt n (fun q => P q && Q q) + cnt n (fun q => P q && !Q q)
  | 0 => rfl
  | n + 1 => by
    rw [cnt_succ, cnt_succ, cnt_succ, cnt_split P Q n]
    cases P n <;> cases Q n <;> simp <;> omega
theorem cnt_none {n : Nat} {P : Nat → Bool} (h : ∀ q, q < n → P q = false) : cnt n P = 0 := by
  unfold cnt
  rw [List.countP_eq_zero]
  intro q hq
  rw [h q (List.mem_range.1 hq)]; simp
theorem cnt_le_cnt {n : Nat} {P Q : Nat → Bool} (h : ∀ q, q < n → P q = true → Q q = true) : cnt n P ≤ cnt n Q :=
  countP_le_of (fun q hq => h q (List.mem_range.1 hq))
theorem cnt_lt_cnt {n : Nat} {P Q : Nat → Bool} (h : ∀ q, q < n → P q = true → Q q = true) {p : Nat} (hp : p < n) (h1 : P p = false) (h2 : Q p = true) : cnt n P < cnt n Q :=
  countP_lt_of (fun q hq => h q (List.mem_range.1 hq)) ⟨p, List.mem_range.2 hp, h1, h2⟩
theorem cnt_le (n : Nat) (P : Nat → Bool) : cnt n P ≤ n := countP_range_le P n
/-- One more. -/
theorem cnt_add {P Q : Nat → Bool} {p : Nat} (h1 : P p = false) (h2 : Q p = true) : ∀ {n : Nat}, p < n → (∀ q, q < n → q ≠ p → P q = Q q) → cnt n Q = cnt n P + 1
  | 0, hp, _ => by omega
  | n + 1, hp, h => by
    rw [cnt_succ, cnt_succ]
    by_cases e : p = n
    · subst e
      rw [h1, h2, cnt_congr (n := p) (P := P) (Q := Q) (fun q hq => h q (by omega) (by omega))]
      simp
    · rw [cnt_add h1 h2 (n := n) (by omega) (fun q hq => h q (by omega)), h n (by omega) (fun h => e h.symm)]
      split <;> omega

/-- The symbol at a place. -/
def sy (xs : List Int) (p : Nat) : Int := xs.getD p 0
theorem sy_at {xs : List Int} {p : Nat} (h : p < xs.length) : sy xs p = xs[p] := by simp [sy, List.getD, h]
/-- Where the suffixes that begin with c begin in the order, and where they end. -/
def bs (xs : List Int) (c : Int) : Nat := cnt xs.length (fun q => decide (sy xs q < c))
def be (xs : List Int) (c : Int) : Nat := cnt xs.length (fun q => decide (sy xs q ≤ c))

/-- The suffix at q is lesser than that at p. -/
def sb (xs : List Int) (q p : Nat) : Bool := lt (xs.drop q) (xs.drop p)
theorem sb_lt {xs : List Int} {q p : Nat} (hq : q < xs.length) (hp : p < xs.length) (h : sy xs q < sy xs p) : sb xs q p = true := by
  rw [sy_at hq, sy_at hp] at h
  unfold sb
  rw [List.drop_eq_getElem_cons hq, List.drop_eq_getElem_cons hp, lt_cons, if_neg (by omega)]
  exact decide_eq_true h
theorem sb_same {xs : List Int} {q p : Nat} (hq : q < xs.length) (hp : p < xs.length) (h : sy xs q = sy xs p) : sb xs q p = sb xs (q + 1) (p + 1) := by
  rw [sy_at hq, sy_at hp] at h
  unfold sb
  rw [List.drop_eq_getElem_cons hq, List.drop_eq_getElem_cons hp, lt_cons, if_pos h]
theorem sb_irrefl (xs : List Int) (p : Nat) : sb xs p p = false := lt_irrefl _
theorem sb_asymm {xs : List Int} {q p : Nat} (h : sb xs q p = true) : sb xs p q = false := lt_asymm _ _ h
theorem sb_total {xs : List Int} {q p : Nat} (hq : q ≤ xs.length) (hp : p ≤ xs.length) (hne : q ≠ p) (h : sb xs q p = false) : sb xs p q = true := by
  rcases lt_total (xs.drop q) (xs.drop p) with h1 | h1 | h1
  · unfold sb at h; rw [h] at h1; cases h1
  · exact h1
  · have := congrArg List.length h1
    simp at this
    omega
theorem sb_trans {xs : List Int} {a b c : Nat} (h : sb xs a b = true) (h2 : sb xs b c = true) : sb xs a c = true := lt_trans _ _ _ h h2
theorem sb_sy {xs : List Int} {q p : Nat} (hq : q < xs.length) (hp : p < xs.length) (h : sb xs q p = true) : sy xs q ≤ sy xs p := by
  rcases Int.lt_or_le (sy xs p) (sy xs q) with h1 | h1
  · rw [sb_asymm (sb_lt hp hq h1)] at h; cases h
  · exact h1
/-- An L is greater than the next one, what is no L is lesser. -/
theorem sb_gt {xs : List Int} {p : Nat} (h : gt xs p = true) : sb xs (p + 1) p = true := h
theorem sb_ngt {xs : List Int} {p : Nat} (hp : p < xs.length) (h : gt xs p = false) : sb xs p (p + 1) = true :=
  sb_total (by omega) (by omega) (by omega) h
theorem sb_LS {xs : List Int} {q p : Nat} (hq : q < xs.length) (hp : p < xs.length) (h : sy xs q = sy xs p) (h1 : gt xs q = true) (h2 : gt xs p = false) : sb xs q p = true := by
  rw [sy_at hq, sy_at hp] at h
  exact LS _ q p rfl hq hp h1 h2 h

section
variable {xs L : List Int} (hO : Ord xs L)
include hO

theorem ps_cnt {p : Nat} (hp : p < xs.length) : ps L p = cnt xs.length (fun q => sb xs q p) := by
  have h2 : (places xs.length).countP (fun q => lt (xs.drop q.toNat) (xs.drop p)) = (List.range xs.length).countP (fun j => lt (xs.drop j) (xs.drop p)) := by
    unfold places
    rw [List.countP_map]
    rfl
  have h3 := countP_sorted hO.1 (i := ps L p) (by rw [OrdTo.length hO]; exact ps_lt hO hp)
  rw [ps_at hO hp, Int.toNat_natCast, hO.perm.countP_eq, h2] at h3
  exact h3.symm

theorem ps_bucket {p : Nat} (hp : p < xs.length) : ps L p = bs xs (sy xs p) + cnt xs.length (fun q => decide (sy xs q = sy xs p) && sb xs q p) := by
  rw [ps_cnt hO hp, cnt_split _ (fun q => decide (sy xs q < sy xs p))]
  congr 1
  · refine cnt_congr (fun q hq => ?_)
    by_cases h : sy xs q < sy xs p
    · simp [h, sb_lt hq hp h]
    · simp [h]
  · refine cnt_congr (fun q hq => ?_)
    by_cases h : sb xs q p = true
    · have := sb_sy hq hp h
      rw [h]
      rcases Int.lt_or_eq_of_le this with h1 | h1
      · simp [h1, show ¬ sy xs q = sy xs p by omega]
      · simp [h1]
    · simp [h]

/-- Where an L stands: ahead of all that are no L. -/
theorem ps_L {p : Nat} (hp : p < xs.length) (hg : gt xs p = true) : ps L p = bs xs (sy xs p) + cnt xs.length (fun q => decide (sy xs q = sy xs p) && gt xs q && sb xs q p) := by
  rw [ps_bucket hO hp]
  congr 1
  refine cnt_congr (fun q hq => ?_)
  by_cases h : sy xs q = sy xs p
  · cases e : gt xs q with
    | true => simp [h]
    | false => rw [sb_asymm (sb_LS hp hq h.symm hg e)]; simp
  · simp [h]

theorem ps_S {p : Nat} (hp : p < xs.length) (hg : gt xs p = false) : ps L p + 1 + cnt xs.length (fun q => decide (sy xs q = sy xs p) && !gt xs q && sb xs p q) = be xs (sy xs p) := by
  have hbe : be xs (sy xs p) = bs xs (sy xs p) + cnt xs.length (fun q => decide (sy xs q = sy xs p)) := by
    unfold be bs
    rw [cnt_split (fun q => decide (sy xs q ≤ sy xs p)) (fun q => decide (sy xs q < sy xs p))]
    congr 1
    · refine cnt_congr (fun q _ => ?_)
      by_cases h : sy xs q < sy xs p
      · simp [h, show sy xs q ≤ sy xs p by omega]
      · simp [h]
    · refine cnt_congr (fun q _ => ?_)
      by_cases h : sy xs q = sy xs p
      · simp [h]
      · by_cases h2 : sy xs q ≤ sy xs p
        · simp [h, h2, show sy xs q < sy xs p by omega]
        · simp [h, h2]
  rw [hbe, ps_bucket hO hp]
  have h1 := cnt_split (fun q => decide (sy xs q = sy xs p)) (fun q => sb xs q p) xs.length
  have h2 : cnt xs.length (fun q => decide (sy xs q = sy xs p) && !sb xs q p) = cnt xs.length (fun q => decide (sy xs q = sy xs p) && !gt xs q && sb xs p q) + 1 := by
    refine cnt_add (p := p) (by simp [sb_irrefl]) (by simp [sb_irrefl]) hp (fun q hq hne => ?_)
    by_cases h : sy xs q = sy xs p
    · cases e : sb xs q p with
      | true => rw [sb_asymm e]; simp
      | false =>
        rw [sb_total (by omega) (by omega) hne e]
        cases e2 : gt xs q with
        | true => rw [sb_LS hq hp h e2 hg] at e; cases e
        | false => simp
    · simp [h]
  omega
end

end Go.Proofs.Ytdhehffdddbmbaa

/-! ## MDraw -/

namespace Go.Proofs.Ytdhehffdddbmbaa

theorem set_at {l : List Int} {i : Nat} (h : i < l.length) (v : Int) : (l.set i v).getD i 0 = v := by simp [List.getD, h]
theorem set_not {l : List Int} {i j : Nat} (h : i ≠ j) (v : Int) : (l.set i v).getD j 0 = l.getD j 0 := by simp [List.getD, h]

/-! ### From the left on -/

/-- What is drawn in (D) and what lies there at the start (M): each has a place of its own (loc) in the list; what is drawn in stands behind its next one, and in its bucket behind those whose next ones stand ahead of its own next one. -/
structure Draws (n : Nat) (sy : Nat → Int) (D M : Nat → Bool) (loc : Nat → Nat) (bs : Int → Nat) : Prop where
  lt : ∀ p, p < n → D p = true ∨ M p = true → loc p < n
  inj : ∀ p q, p < n → q < n → D p = true ∨ M p = true → D q = true ∨ M q = true → loc p = loc q → p = q
  next : ∀ p, p + 1 < n → D p = true → (D (p + 1) = true ∨ M (p + 1) = true) ∧ loc (p + 1) < loc p
  last : ∀ p, p + 1 = n → D p = true ∧ loc p = bs (sy p)
  goes : ∀ p, p + 1 < n → D p = true → loc p = bs (sy p) + cnt n (fun q => decide (sy q = sy p) && D q && (decide (q + 1 = n) || decide (loc (q + 1) < loc (p + 1))))

/-- Drawn in by what stands ahead of i. -/
def dn (n : Nat) (loc : Nat → Nat) (i q : Nat) : Bool := decide (q + 1 = n) || decide (loc (q + 1) < i)

/-- The list and the buckets' heads when what stands ahead of i has been read. -/
structure DrawnL (n : Nat) (sy : Nat → Int) (D M : Nat → Bool) (loc : Nat → Nat) (bs : Int → Nat) (i : Nat) (arr : List Int) (hd : Int → Nat) : Prop where
  len : arr.length = n
  drawn : ∀ p, p < n → D p = true → dn n loc i p = true → arr.getD (loc p) 0 = p
  laid : ∀ p, p < n → M p = true → arr.getD (loc p) 0 = p
  free : ∀ j, j < n → 0 ≤ arr.getD j 0 → ∃ p, p < n ∧ arr.getD j 0 = (p : Int) ∧ loc p = j ∧ (M p = true ∨ D p = true ∧ dn n loc i p = true)
  head : ∀ c, hd c = bs c + cnt n (fun q => decide (sy q = c) && D q && dn n loc i q)

/-- One head is set one further. -/
def up (hd : Int → Nat) (c : Int) : Int → Nat := fun c' => if c' = c then hd c + 1 else hd c'
def down (hd : Int → Nat) (c : Int) : Int → Nat := fun c' => if c' = c then hd c - 1 else hd c'

section
variable {n : Nat} {sy : Nat → Int} {D M : Nat → Bool} {loc : Nat → Nat} {bs : Int → Nat} {i : Nat} {arr : List Int} {hd : Int → Nat}

/-- At the start: the marks lie there, then the last place is drawn in. -/
theorem DrawnL.start (h : Draws n sy D M loc bs) (hl : arr.length = n) (hM : ∀ p, p < n → M p = true → arr.getD (loc p) 0 = p) (hDM : ∀ p, p < n → D p = true → M p = false) (hF : ∀ j, j < n → 0 ≤ arr.getD j 0 → ∃ p, p < n ∧ arr.getD j 0 = (p : Int) ∧ loc p = j ∧ M p = true)
    (hh : ∀ c, hd c = bs c) {z : Nat} (hz : z + 1 = n) : DrawnL n sy D M loc bs 0 (arr.set (hd (sy z)) z) (up hd (sy z)) ∧ hd (sy z) < n := by
  obtain ⟨hDz, hlz⟩ := h.last z hz
  have hzn : z < n := by omega
  have hlt := h.lt z hzn (.inl hDz)
  have he : hd (sy z) = loc z := by rw [hh, hlz]
  have hdn : ∀ q, q < n → dn n loc 0 q = decide (q = z) := by
    intro q hq
    unfold dn
    rw [Bool.eq_iff_iff]; simp; omega
  refine ⟨⟨by simp [hl], ?_, ?_, ?_, ?_⟩, by omega⟩
  · intro p hp hD hd0
    rw [hdn p hp] at hd0
    obtain rfl : p = z := by simpa using hd0
    rw [he]; exact set_at (by omega) _
  · intro p hp hMp
    have hne : loc z ≠ loc p := fun e => by
      have := h.inj z p hzn hp (.inl hDz) (.inr hMp) e
      subst this
      rw [hDM z hzn hDz] at hMp; cases hMp
    rw [he, set_not hne]
    exact hM p hp hMp
  · intro j hj h0
    by_cases e : loc z = j
    · subst e
      refine ⟨z, hzn, ?_, rfl, .inr ⟨hDz, by rw [hdn z hzn]; simp⟩⟩
      rw [he]; exact set_at (by omega) _
    · rw [he, set_not e] at h0 ⊢
      obtain ⟨p, hp, h1, h2, h3⟩ := hF j hj h0
      exact ⟨p, hp, h1, h2, .inl h3⟩
  · intro c
    unfold up
    by_cases e : c = sy z
    · subst e
      rw [if_pos rfl, hh]
      rw [cnt_add (n := n) (p := z) (P := fun _ => false) (Q := fun q => decide (sy q = sy z) && D q && dn n loc 0 q) rfl (by simp [hDz, hdn z hzn]) hzn (fun q hq hne => by rw [hdn q hq]; simp [hne]), cnt_none (fun _ _ => rfl)]
    · rw [if_neg e, hh, cnt_none, Nat.add_zero]
      intro q hq
      rw [hdn q hq]
      by_cases e2 : q = z
      · subst e2; simp [show ¬ sy q = c from fun h => e h.symm]
      · simp [e2]

/-- Nothing to draw in: there stands nothing, or the text's first place, or one whose place ahead is not drawn in. -/
theorem DrawnL.skip (h : Draws n sy D M loc bs) (hI : DrawnL n sy D M loc bs i arr hd) (hn : ∀ p, p + 1 < n → arr.getD i 0 = ((p + 1 : Nat) : Int) → D p = false) : DrawnL n sy D M loc bs (i + 1) arr hd := by
  have hdn : ∀ q, q < n → D q = true → dn n loc (i + 1) q = dn n loc i q := by
    intro q hq hD
    unfold dn
    by_cases hl : q + 1 = n
    · simp [hl]
    · have hq1 : q + 1 < n := by omega
      have hne : loc (q + 1) ≠ i := by
        intro e
        obtain ⟨hc, hlt⟩ := h.next q hq1 hD
        have hat : arr.getD i 0 = ((q + 1 : Nat) : Int) := by
          rw [← e]
          rcases hc with hc | hc
          · refine hI.drawn (q + 1) hq1 hc ?_
            unfold dn
            by_cases hl2 : q + 1 + 1 = n
            · simp [hl2]
            · have := (h.next (q + 1) (by omega) hc).2
              simp; right; omega
          · exact hI.laid (q + 1) hq1 hc
        rw [hn q hq1 hat] at hD; cases hD
      rw [Bool.eq_iff_iff]; simp; omega
  refine ⟨hI.len, ?_, hI.laid, ?_, ?_⟩
  · intro p hp hD h1
    exact hI.drawn p hp hD (by rw [← hdn p hp hD]; exact h1)
  · intro j hj h0
    obtain ⟨p, hp, h1, h2, h3⟩ := hI.free j hj h0
    refine ⟨p, hp, h1, h2, ?_⟩
    rcases h3 with h3 | ⟨h3, h4⟩
    · exact .inl h3
    · exact .inr ⟨h3, by rw [hdn p hp h3]; exact h4⟩
  · intro c
    rw [hI.head c]
    congr 1
    refine cnt_congr (fun q hq => ?_)
    cases e : D q with
    | false => simp
    | true => rw [hdn q hq e]

/-- A place is drawn in. -/
theorem DrawnL.draw (h : Draws n sy D M loc bs) (hDM : ∀ p, p < n → D p = true → M p = false) (hI : DrawnL n sy D M loc bs i arr hd) (hi : i < n) {p : Nat} (hp1 : p + 1 < n) (hat : arr.getD i 0 = ((p + 1 : Nat) : Int)) (hD : D p = true) :
    DrawnL n sy D M loc bs (i + 1) (arr.set (hd (sy p)) p) (up hd (sy p)) ∧ hd (sy p) < n ∧ i < hd (sy p) := by
  have hp : p < n := by omega
  obtain ⟨r, hr, hr1, hr2, _⟩ := hI.free i hi (by rw [hat]; omega)
  obtain rfl : r = p + 1 := by omega
  have hgo := h.goes p hp1 hD
  have hlt := h.lt p hp (.inl hD)
  have hnx := (h.next p hp1 hD).2
  have he : hd (sy p) = loc p := by
    rw [hI.head, hgo, hr2]; rfl
  have hpn : dn n loc i p = false := by unfold dn; simp; omega
  have hdn : ∀ q, q < n → q ≠ p → D q = true → dn n loc (i + 1) q = dn n loc i q := by
    intro q hq hne hDq
    unfold dn
    by_cases hl : q + 1 = n
    · simp [hl]
    · have hq1 : q + 1 < n := by omega
      have hne : loc (q + 1) ≠ i := by
        intro e
        have := h.inj (q + 1) (p + 1) hq1 hp1 (h.next q hq1 hDq).1 (h.next p hp1 hD).1 (by omega)
        omega
      rw [Bool.eq_iff_iff]; simp; omega
  have hpn1 : dn n loc (i + 1) p = true := by unfold dn; simp; omega
  refine ⟨⟨by simp [hI.len], ?_, ?_, ?_, ?_⟩, by omega, by omega⟩
  · intro q hq hDq h1
    by_cases e : q = p
    · subst e; rw [he]; exact set_at (by rw [hI.len]; omega) _
    · have hne : loc p ≠ loc q := fun e2 => e (h.inj p q hp hq (.inl hD) (.inl hDq) e2).symm
      rw [he, set_not hne]
      exact hI.drawn q hq hDq (by rw [← hdn q hq e hDq]; exact h1)
  · intro q hq hMq
    have hne : loc p ≠ loc q := fun e2 => by
      have := h.inj p q hp hq (.inl hD) (.inr hMq) e2
      subst this
      rw [hDM p hp hD] at hMq; cases hMq
    rw [he, set_not hne]
    exact hI.laid q hq hMq
  · intro j hj h0
    by_cases e : loc p = j
    · subst e
      exact ⟨p, hp, by rw [he]; exact set_at (by rw [hI.len]; omega) _, rfl, .inr ⟨hD, hpn1⟩⟩
    · rw [he, set_not e] at h0 ⊢
      obtain ⟨q, hq, h1, h2, h3⟩ := hI.free j hj h0
      refine ⟨q, hq, h1, h2, ?_⟩
      rcases h3 with h3 | ⟨h3, h4⟩
      · exact .inl h3
      · refine .inr ⟨h3, ?_⟩
        have hne : q ≠ p := fun e2 => e (by rw [← e2]; exact h2)
        rw [hdn q hq hne h3]; exact h4
  · intro c
    unfold up
    by_cases e : c = sy p
    · subst e
      rw [if_pos rfl, hI.head]
      rw [cnt_add (n := n) (p := p) (P := fun q => decide (sy q = sy p) && D q && dn n loc i q) (Q := fun q => decide (sy q = sy p) && D q && dn n loc (i + 1) q) (by simp [hpn]) (by simp [hpn1, hD]) hp (fun q hq hne => by
        cases e3 : D q with
        | false => simp
        | true => rw [hdn q hq hne e3])]
      omega
    · rw [if_neg e, hI.head]
      congr 1
      refine cnt_congr (fun q hq => ?_)
      by_cases e2 : q = p
      · subst e2; simp [show ¬ sy q = c from fun h => e h.symm]
      · cases e3 : D q with
        | false => simp
        | true => rw [hdn q hq e2 e3]

/-- At the end all are drawn in. -/
theorem DrawnL.done (h : Draws n sy D M loc bs) (hI : DrawnL n sy D M loc bs i arr hd) (hi : n ≤ i) {p : Nat} (hp : p < n) (hD : D p = true) : arr.getD (loc p) 0 = p := by
  refine hI.drawn p hp hD ?_
  unfold dn
  by_cases hl : p + 1 = n
  · simp [hl]
  · have := h.lt (p + 1) (by omega) (h.next p (by omega) hD).1
    simp; omega

/-- What stands in the list is a place or less than 0. -/
theorem DrawnL.range (hI : DrawnL n sy D M loc bs i arr hd) {j : Nat} (hj : j < n) : arr.getD j 0 < n := by
  rcases Int.lt_or_le (arr.getD j 0) 0 with h0 | h0
  · omega
  · obtain ⟨p, hp, h1, _⟩ := hI.free j hj h0
    omega
end

/-! ### From the right on -/

/-- Each place has a place of its own (loc, of) in the list; what is drawn in (D) stands ahead of its next one, and in its bucket ahead of those whose next ones stand behind its own next one. -/
structure DrawsS (n : Nat) (sy : Nat → Int) (D : Nat → Bool) (loc oF : Nat → Nat) (be : Int → Nat) : Prop where
  lt : ∀ p, p < n → loc p < n
  oF_lt : ∀ i, i < n → oF i < n ∧ loc (oF i) = i
  inj : ∀ p q, p < n → q < n → loc p = loc q → p = q
  next : ∀ p, p < n → D p = true → p + 1 < n ∧ loc p < loc (p + 1)
  goes : ∀ p, p < n → D p = true → loc p + 1 + cnt n (fun q => decide (sy q = sy p) && D q && decide (loc (p + 1) < loc (q + 1))) = be (sy p)

/-- The list and the buckets' tails when what stands from i on has been read. -/
structure DrawnS (n : Nat) (sy : Nat → Int) (D : Nat → Bool) (loc : Nat → Nat) (be : Int → Nat) (i : Nat) (arr : List Int) (tl : Int → Nat) : Prop where
  len : arr.length = n
  there : ∀ p, p < n → D p = false → arr.getD (loc p) 0 = p
  drawn : ∀ p, p < n → D p = true → i ≤ loc (p + 1) → arr.getD (loc p) 0 = p
  tail : ∀ c, tl c + cnt n (fun q => decide (sy q = c) && D q && decide (i ≤ loc (q + 1))) = be c

section
variable {n : Nat} {sy : Nat → Int} {D : Nat → Bool} {loc oF : Nat → Nat} {be : Int → Nat} {i : Nat} {arr : List Int} {tl : Int → Nat}

theorem DrawnS.start (h : DrawsS n sy D loc oF be) (hl : arr.length = n) (hL : ∀ p, p < n → D p = false → arr.getD (loc p) 0 = p) (ht : ∀ c, tl c = be c) : DrawnS n sy D loc be n arr tl := by
  refine ⟨hl, hL, ?_, ?_⟩
  · intro p hp hD h1
    have := h.lt (p + 1) (h.next p hp hD).1
    omega
  · intro c
    rw [ht, cnt_none, Nat.add_zero]
    intro q hq
    cases e : D q with
    | false => simp
    | true =>
      have := h.lt (q + 1) (h.next q hq e).1
      simp; intro _; omega

/-- What is read is what stands there at the end. -/
theorem DrawnS.read (h : DrawsS n sy D loc oF be) (hI : DrawnS n sy D loc be (i + 1) arr tl) (hi : i < n) : arr.getD i 0 = oF i := by
  obtain ⟨h1, h2⟩ := h.oF_lt i hi
  cases e : D (oF i) with
  | false => have := hI.there (oF i) h1 e; rwa [h2] at this
  | true =>
    have := hI.drawn (oF i) h1 e (by have := (h.next (oF i) h1 e).2; omega)
    rwa [h2] at this

theorem DrawnS.skip (h : DrawsS n sy D loc oF be) (hI : DrawnS n sy D loc be (i + 1) arr tl) (hi : i < n) (hn : ∀ p, oF i = p + 1 → D p = false) : DrawnS n sy D loc be i arr tl := by
  obtain ⟨g1, g2⟩ := h.oF_lt i hi
  have hne : ∀ q, q < n → D q = true → loc (q + 1) ≠ i := by
    intro q hq hD e
    have := h.inj (oF i) (q + 1) g1 (h.next q hq hD).1 (by omega)
    rw [hn q this] at hD; cases hD
  refine ⟨hI.len, hI.there, ?_, ?_⟩
  · intro p hp hD h1
    have := hne p hp hD
    exact hI.drawn p hp hD (by omega)
  · intro c
    rw [← hI.tail c]
    congr 1
    refine cnt_congr (fun q hq => ?_)
    cases e : D q with
    | false => simp
    | true =>
      have := hne q hq e
      have : decide (i ≤ loc (q + 1)) = decide (i + 1 ≤ loc (q + 1)) := by rw [Bool.eq_iff_iff]; simp; omega
      rw [this]

theorem DrawnS.draw (h : DrawsS n sy D loc oF be) (hI : DrawnS n sy D loc be (i + 1) arr tl) (hi : i < n) {p : Nat} (hat : oF i = p + 1) (hD : D p = true) :
    DrawnS n sy D loc be i (arr.set (tl (sy p) - 1) p) (down tl (sy p)) ∧ 1 ≤ tl (sy p) ∧ tl (sy p) ≤ i := by
  obtain ⟨g1, g2⟩ := h.oF_lt i hi
  have hp : p < n := by omega
  rw [hat] at g2
  have hgo := h.goes p hp hD
  have hlt := h.lt p hp
  have hnx := (h.next p hp hD).2
  have he : tl (sy p) = loc p + 1 := by
    have h1 := hI.tail (sy p)
    rw [← hgo] at h1
    have h2 : cnt n (fun q => decide (sy q = sy p) && D q && decide (i + 1 ≤ loc (q + 1))) = cnt n (fun q => decide (sy q = sy p) && D q && decide (loc (p + 1) < loc (q + 1))) := by
      rw [g2]; rfl
    omega
  have he1 : tl (sy p) - 1 = loc p := by omega
  have hne : ∀ q, q < n → q ≠ p → D q = true → loc (q + 1) ≠ i := by
    intro q hq hqp hDq e
    have := h.inj (q + 1) (p + 1) (h.next q hq hDq).1 (by omega) (by omega)
    omega
  refine ⟨⟨by simp [hI.len], ?_, ?_, ?_⟩, by omega, by omega⟩
  · intro q hq hDq
    have : loc p ≠ loc q := fun e => by
      have := h.inj p q hp hq e
      subst this
      rw [hD] at hDq; cases hDq
    rw [he1, set_not this]
    exact hI.there q hq hDq
  · intro q hq hDq h1
    by_cases e : q = p
    · subst e; rw [he1]; exact set_at (by rw [hI.len]; omega) _
    · have h2 : loc p ≠ loc q := fun e2 => e (h.inj p q hp hq e2).symm
      have h3 := hne q hq e hDq
      rw [he1, set_not h2]
      exact hI.drawn q hq hDq (by omega)
  · intro c
    unfold down
    have hb := hI.tail c
    by_cases e : c = sy p
    · subst e
      rw [if_pos rfl]
      have := cnt_add (n := n) (p := p) (P := fun q => decide (sy q = sy p) && D q && decide (i + 1 ≤ loc (q + 1))) (Q := fun q => decide (sy q = sy p) && D q && decide (i ≤ loc (q + 1))) (by simp; intro _; omega) (by simp [hD]; omega) hp (fun q hq hqp => by
        cases e3 : D q with
        | false => simp
        | true =>
          have h4 := hne q hq hqp e3
          have : decide (i + 1 ≤ loc (q + 1)) = decide (i ≤ loc (q + 1)) := by rw [Bool.eq_iff_iff]; simp; omega
          rw [this])
      omega
    · rw [if_neg e, ← hb]
      congr 1
      refine cnt_congr (fun q hq => ?_)
      by_cases e2 : q = p
      · subst e2; simp [show ¬ sy q = c from fun h => e h.symm]
      · cases e3 : D q with
        | false => simp
        | true =>
          have h4 := hne q hq e2 e3
          have : decide (i ≤ loc (q + 1)) = decide (i + 1 ≤ loc (q + 1)) := by rw [Bool.eq_iff_iff]; simp; omega
          rw [this]

theorem DrawnS.done (_h : DrawsS n sy D loc oF be) (hI : DrawnS n sy D loc be 0 arr tl) {p : Nat} (hp : p < n) : arr.getD (loc p) 0 = p := by
  cases e : D p with
  | false => exact hI.there p hp e
  | true => exact hI.drawn p hp e (Nat.zero_le _)
end

end Go.Proofs.Ytdhehffdddbmbaa
