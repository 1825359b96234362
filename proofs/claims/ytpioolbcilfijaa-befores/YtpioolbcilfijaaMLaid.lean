/-
  MLaid: plain mathematics: marks that are laid at their buckets' ends in the order of their suffixes; then all others are drawn in (P8, P13). Nothing of the program.
-/
import Derived.Test.YtpioolbcilfijaaMDraw
import Derived.Test.YtpioolbcilfijaaMWays
namespace Go.Proofs.Ytpioolbcilfijaa

/-! ### Laying from the last to the first -/

/-- What is laid (M), in the order r (mk from 0 to m), each at its bucket's end ahead of those of its bucket that are laid behind it. -/
structure Lays (n : Nat) (sy : Nat → Int) (M : Nat → Bool) (loc r mk : Nat → Nat) (m : Nat) (be : Int → Nat) : Prop where
  lt : ∀ p, p < n → M p = true → loc p < n
  inj : ∀ p q, p < n → q < n → M p = true → M q = true → loc p = loc q → p = q
  mk_lt : ∀ k, k < m → mk k < n ∧ M (mk k) = true ∧ r (mk k) = k
  r_lt : ∀ p, p < n → M p = true → r p < m ∧ mk (r p) = p
  goes : ∀ p, p < n → M p = true → loc p + 1 + cnt n (fun q => decide (sy q = sy p) && M q && decide (r p < r q)) = be (sy p)

structure Laid (n : Nat) (sy : Nat → Int) (M : Nat → Bool) (loc r : Nat → Nat) (be : Int → Nat) (i : Nat) (arr : List Int) (tl : Int → Nat) : Prop where
  len : arr.length = n
  laid : ∀ p, p < n → M p = true → i ≤ r p → arr.getD (loc p) 0 = p
  free : ∀ j, j < n → 0 ≤ arr.getD j 0 → ∃ p, p < n ∧ arr.getD j 0 = (p : Int) ∧ loc p = j ∧ M p = true ∧ i ≤ r p
  tail : ∀ c, tl c + cnt n (fun q => decide (sy q = c) && M q && decide (i ≤ r q)) = be c

section
variable {n : Nat} {sy : Nat → Int} {M : Nat → Bool} {loc r mk : Nat → Nat} {m : Nat} {be : Int → Nat} {i : Nat} {arr : List Int} {tl : Int → Nat}

theorem Laid.start (h : Lays n sy M loc r mk m be) (hl : arr.length = n) (hE : ∀ j, j < n → arr.getD j 0 < 0) (ht : ∀ c, tl c = be c) : Laid n sy M loc r be m arr tl := by
  refine ⟨hl, ?_, ?_, ?_⟩
  · intro p hp hM h1
    have := (h.r_lt p hp hM).1
    omega
  · intro j hj h0
    have := hE j hj
    omega
  · intro c
    rw [ht, cnt_none, Nat.add_zero]
    intro q hq
    cases e : M q with
    | false => simp
    | true =>
      have := (h.r_lt q hq e).1
      simp; intro _; omega

theorem Laid.lay (h : Lays n sy M loc r mk m be) (hI : Laid n sy M loc r be (i + 1) arr tl) (hi : i < m) {p : Nat} (hp : mk i = p) :
    Laid n sy M loc r be i (arr.set (tl (sy p) - 1) p) (down tl (sy p)) ∧ 1 ≤ tl (sy p) ∧ tl (sy p) ≤ n := by
  obtain ⟨hpn, hM, hr⟩ := h.mk_lt i hi
  rw [hp] at hpn hM hr
  have hgo := h.goes p hpn hM
  have hlt := h.lt p hpn hM
  have he : tl (sy p) = loc p + 1 := by
    have h1 := hI.tail (sy p)
    rw [← hgo] at h1
    have h2 : cnt n (fun q => decide (sy q = sy p) && M q && decide (i + 1 ≤ r q)) = cnt n (fun q => decide (sy q = sy p) && M q && decide (r p < r q)) := by
      rw [hr]; rfl
    omega
  have he1 : tl (sy p) - 1 = loc p := by omega
  have hne : ∀ q, q < n → q ≠ p → M q = true → r q ≠ i := by
    intro q hq hqp hMq e
    have := (h.r_lt q hq hMq).2
    rw [e, hp] at this
    exact hqp this.symm
  refine ⟨⟨by simp [hI.len], ?_, ?_, ?_⟩, by omega, by omega⟩
  · intro q hq hMq h1
    by_cases e : q = p
    · subst e; rw [he1]; exact set_at (by rw [hI.len]; omega) _
    · have h2 : loc p ≠ loc q := fun e2 => e (h.inj p q hpn hq hM hMq e2).symm
      have h3 := hne q hq e hMq
      rw [he1, set_not h2]
      exact hI.laid q hq hMq (by omega)
  · intro j hj h0
    by_cases e : loc p = j
    · subst e
      exact ⟨p, hpn, by rw [he1]; exact set_at (by rw [hI.len]; omega) _, rfl, hM, by omega⟩
    · rw [he1, set_not e] at h0 ⊢
      obtain ⟨q, hq, h1, h2, h3, h4⟩ := hI.free j hj h0
      exact ⟨q, hq, h1, h2, h3, by omega⟩
  · intro c
    unfold down
    have hb := hI.tail c
    by_cases e : c = sy p
    · subst e
      rw [if_pos rfl]
      have := cnt_add (n := n) (p := p) (P := fun q => decide (sy q = sy p) && M q && decide (i + 1 ≤ r q)) (Q := fun q => decide (sy q = sy p) && M q && decide (i ≤ r q)) (by simp; intro _; omega) (by simp [hM]; omega) hpn (fun q hq hqp => by
        cases e3 : M q with
        | false => simp
        | true =>
          have h4 := hne q hq hqp e3
          have : decide (i + 1 ≤ r q) = decide (i ≤ r q) := by rw [Bool.eq_iff_iff]; simp; omega
          rw [this])
      omega
    · rw [if_neg e, ← hb]
      congr 1
      refine cnt_congr (fun q hq => ?_)
      by_cases e2 : q = p
      · subst e2; simp [show ¬ sy q = c from fun h => e h.symm]
      · cases e3 : M q with
        | false => simp
        | true =>
          have h4 := hne q hq e2 e3
          have : decide (i ≤ r q) = decide (i + 1 ≤ r q) := by rw [Bool.eq_iff_iff]; simp; omega
          rw [this]

theorem Laid.range (hI : Laid n sy M loc r be i arr tl) {j : Nat} (hj : j < n) : arr.getD j 0 < n := by
  rcases Int.lt_or_le (arr.getD j 0) 0 with h0 | h0
  · omega
  · obtain ⟨p, hp, h1, _⟩ := hI.free j hj h0
    omega
end

/-! ### The marks in the order of their suffixes -/

/-- Where a place stands ahead of the pass from the right: an L where it belongs, a mark where it was laid. -/
def locF (xs L : List Int) (p : Nat) : Nat :=
  if gt xs p = true then ps L p else be xs (sy xs p) - 1 - cnt xs.length (fun q => decide (sy xs q = sy xs p) && isMark xs q && sb xs p q)

theorem mark_not {xs : List Int} {p : Nat} (h : isMark xs p = true) : gt xs p = false := ((mark_iff xs p).1 h).2.1
theorem be_le (xs : List Int) (c : Int) : be xs c ≤ xs.length := cnt_le _ _
theorem be_bs {xs : List Int} {c d : Int} (h : c < d) : be xs c ≤ bs xs d := cnt_le_cnt (fun q _ hq => by simp at hq ⊢; omega)

section
variable {xs L : List Int} (hO : Ord xs L)
include hO

theorem bs_le {p : Nat} (hp : p < xs.length) : bs xs (sy xs p) ≤ ps L p := by rw [ps_bucket hO hp]; omega
theorem locF_L {p : Nat} (h : gt xs p = true) : locF xs L p = ps L p := by have := hO; unfold locF; rw [if_pos h]
theorem locF_M {p : Nat} (hp : p < xs.length) (h : isMark xs p = true) : locF xs L p + 1 + cnt xs.length (fun q => decide (sy xs q = sy xs p) && isMark xs q && sb xs p q) = be xs (sy xs p) ∧ ps L p ≤ locF xs L p := by
  have h0 := mark_not h
  have h1 := ps_S hO hp h0
  have h2 : cnt xs.length (fun q => decide (sy xs q = sy xs p) && isMark xs q && sb xs p q) ≤ cnt xs.length (fun q => decide (sy xs q = sy xs p) && !gt xs q && sb xs p q) := by
    refine cnt_le_cnt (fun q _ hq => ?_)
    simp at hq ⊢
    exact ⟨⟨hq.1.1, mark_not hq.1.2⟩, hq.2⟩
  unfold locF
  rw [if_neg (by rw [h0]; simp)]
  omega

theorem locF_mono {a b : Nat} (ha : a < xs.length) (hb : b < xs.length) (la : lm xs a) (lb : lm xs b) (h : sb xs a b = true) : locF xs L a < locF xs L b := by
  have hps : ps L a < ps L b := (ps_lt_iff hO ha hb).1 h
  have hsy := sb_sy ha hb h
  rcases la with la | la
  · rw [locF_L hO la]
    rcases lb with lb | lb
    · rw [locF_L hO lb]; exact hps
    · have := (locF_M hO hb lb).2; omega
  · obtain ⟨a1, a2⟩ := locF_M hO ha la
    rcases Int.lt_or_eq_of_le hsy with h1 | h1
    · have h2 := be_bs (xs := xs) h1
      have h3 := bs_le hO hb
      rcases lb with lb | lb
      · rw [locF_L hO lb]; omega
      · have := (locF_M hO hb lb).2; omega
    · rcases lb with lb | lb
      · rw [sb_asymm (sb_LS hb ha h1.symm lb (mark_not la))] at h; cases h
      · obtain ⟨b1, b2⟩ := locF_M hO hb lb
        rw [← h1] at b1
        have := cnt_lt_cnt (n := xs.length) (P := fun q => decide (sy xs q = sy xs a) && isMark xs q && sb xs b q) (Q := fun q => decide (sy xs q = sy xs a) && isMark xs q && sb xs a q) (fun q _ hq => by
          simp at hq ⊢
          exact ⟨hq.1, sb_trans h hq.2⟩) hb (by simp [sb_irrefl]) (by simp [h1, lb, h])
        omega

theorem locF_iff {a b : Nat} (ha : a < xs.length) (hb : b < xs.length) (la : lm xs a) (lb : lm xs b) : sb xs a b = true ↔ locF xs L a < locF xs L b := by
  refine ⟨locF_mono hO ha hb la lb, fun h => ?_⟩
  cases e : sb xs a b with
  | true => rfl
  | false =>
    by_cases hab : a = b
    · subst hab; omega
    · have := locF_mono hO hb ha lb la (sb_total (by omega) (by omega) hab e)
      omega

theorem draws_final : Draws xs.length (sy xs) (gt xs) (isMark xs) (locF xs L) (bs xs) := by
  refine ⟨?_, ?_, ?_, ?_, ?_⟩
  · intro p hp h
    rcases h with h | h
    · rw [locF_L hO h]; exact ps_lt hO hp
    · have := (locF_M hO hp h).1
      have := be_le xs (sy xs p)
      omega
  · intro p q hp hq h1 h2 he
    apply Classical.byContradiction
    intro hne
    cases e : sb xs p q with
    | true => have := locF_mono hO hp hq h1 h2 e; omega
    | false => have := locF_mono hO hq hp h2 h1 (sb_total (by omega) (by omega) hne e); omega
  · intro p hp h
    have h1 := lm_next h
    exact ⟨h1, locF_mono hO hp (by omega) h1 (.inl h) (sb_gt h)⟩
  · intro p hp
    have hg := gt_last (xs := xs) (i := p) (by omega)
    exact ⟨hg, by rw [locF_L hO hg]; exact ps_last hO hp⟩
  · intro p hp h
    rw [locF_L hO h]
    exact ps_drawL hO hp h (locF xs L) (fun a b ha hb la lb => locF_iff hO ha hb la lb)

theorem drawsS_final : DrawsS xs.length (sy xs) (fun p => !gt xs p) (ps L) (fun i => (L.getD i 0).toNat) (be xs) := by
  have hnl : ∀ q, q < xs.length → gt xs q = false → q + 1 < xs.length := by
    intro q hq h
    rcases Nat.lt_or_ge (q + 1) xs.length with h1 | h1
    · exact h1
    · rw [gt_last (by omega)] at h; cases h
  refine ⟨fun p hp => ps_lt hO hp, ?_, fun p q hp hq h => ps_inj hO hp hq h, ?_, ?_⟩
  · intro i hi
    have := OrdTo.at hO hi
    exact ⟨by omega, ps_of hO hi⟩
  · intro p hp h
    have h : gt xs p = false := by simpa using h
    have h1 := hnl p hp h
    exact ⟨h1, (ps_lt_iff hO hp h1).1 (sb_ngt hp h)⟩
  · intro p hp h
    exact ps_drawS hO hp (by simpa using h)

/-- At the end the list is the order. -/
theorem drawn_order {arr : List Int} {tl : Int → Nat} (hI : DrawnS xs.length (sy xs) (fun p => !gt xs p) (ps L) (be xs) 0 arr tl) : arr = L := by
  have hl := OrdTo.length hO
  refine List.ext_getElem (by rw [hI.len, hl]) (fun i h1 h2 => ?_)
  have hi : i < xs.length := by omega
  have hat := OrdTo.at hO hi
  have h3 := hI.done (drawsS_final hO) (p := (L.getD i 0).toNat) (by omega)
  rw [ps_of hO hi] at h3
  have e1 : arr.getD i 0 = arr[i] := by simp [List.getD, h1]
  have e2 : L.getD i 0 = L[i] := by simp [List.getD, h2]
  rw [e1] at h3
  rw [h3, ← e2]
  omega

/-! ### The marks as a list -/

/-- Where a mark stands among the marks. -/
def rM (xs : List Int) (p : Nat) : Nat := cnt xs.length (fun q => isMark xs q && sb xs q p)

theorem rM_iff {p q : Nat} (hp : p < xs.length) (hq : q < xs.length) (h1 : isMark xs p = true) (h2 : isMark xs q = true) : rM xs p < rM xs q ↔ sb xs p q = true := by
  have := hO
  have key : ∀ {a b : Nat}, a < xs.length → isMark xs a = true → sb xs a b = true → rM xs a < rM xs b := fun {a b} ha hm h =>
    cnt_lt_cnt (fun q _ hq => by simp at hq ⊢; exact ⟨hq.1, sb_trans hq.2 h⟩) ha (by simp [sb_irrefl]) (by simp [hm, h])
  refine ⟨fun h => ?_, key hp h1⟩
  cases e : sb xs p q with
  | true => rfl
  | false =>
    by_cases hab : p = q
    · subst hab; omega
    · have := key hq h2 (sb_total (by omega) (by omega) hab e)
      omega

theorem ordMarks_sorted : (ordMarks xs L).Pairwise (sl xs) := List.Pairwise.filter _ hO.1
theorem rM_at {k : Nat} (hk : k < (ordMarks xs L).length) : rM xs ((ordMarks xs L).getD k 0).toNat = k := by
  have h1 := countP_sorted (ordMarks_sorted hO) hk
  generalize ((ordMarks xs L).getD k 0).toNat = z at h1 ⊢
  have h2 : (places xs.length).countP (fun q => isMark xs q.toNat && lt (xs.drop q.toNat) (xs.drop z)) = rM xs z := by
    unfold places rM cnt
    rw [List.countP_map]
    rfl
  rw [← h2, ← hO.perm.countP_eq, ← h1]
  unfold ordMarks
  rw [List.countP_filter]
  refine List.countP_congr (fun q _ => ?_)
  simp [and_comm]

theorem lays_final : Lays xs.length (sy xs) (isMark xs) (locF xs L) (rM xs) (fun k => ((ordMarks xs L).getD k 0).toNat) (ordMarks xs L).length (be xs) := by
  have hd := draws_final hO
  refine ⟨fun p hp h => hd.lt p hp (.inr h), fun p q hp hq h1 h2 he => hd.inj p q hp hq (.inr h1) (.inr h2) he, ?_, ?_, ?_⟩
  · intro k hk
    have hm := (mem_ordMarks hO ((ordMarks xs L).getD k 0)).1 (by rw [List.getD, List.getElem?_eq_getElem hk, Option.getD_some]; exact List.getElem_mem hk)
    exact ⟨by omega, hm.2, rM_at hO hk⟩
  · intro p hp h
    have hm := (mem_ordMarks hO (p : Int)).2 ⟨by omega, by simpa using h⟩
    obtain ⟨k, hk, he⟩ := List.getElem_of_mem hm
    have hg : ((ordMarks xs L).getD k 0).toNat = p := by rw [List.getD, List.getElem?_eq_getElem hk, Option.getD_some, he]; rfl
    have := rM_at hO hk
    rw [hg] at this
    rw [this]
    exact ⟨hk, hg⟩
  · intro p hp h
    rw [← (locF_M hO hp h).1]
    congr 1
    refine cnt_congr (fun q hq => ?_)
    cases e : isMark xs q with
    | false => simp
    | true =>
      have : decide (rM xs p < rM xs q) = sb xs p q := by rw [Bool.eq_iff_iff, ← rM_iff hO hp hq h e]; simp
      rw [this]
end

end Go.Proofs.Ytpioolbcilfijaa
