/-
  MPos: plain mathematics of where a place stands in the order, and why ranks give it (P8 to P11). Nothing of the program.
-/
import Derived.Test.YtpioolbcilfijaaMShared
import Derived.Test.YtpioolbcilfijaaMRanks
import Derived.Test.YtpioolbcilfijaaMCnt
namespace Go.Proofs.Ytpioolbcilfijaa

/-- Where the place p stands in the list. -/
def ps (L : List Int) (p : Nat) : Nat := L.findIdx (fun q => q == (p : Int))

section
variable {xs L : List Int} (hO : Ord xs L)
include hO

theorem ps_lt {p : Nat} (hp : p < xs.length) : ps L p < xs.length := by
  have hm := (hO.2 (p : Int)).2 ⟨by omega, by omega⟩
  have h := List.findIdx_lt_length_of_exists (p := fun q => q == (p : Int)) (xs := L) ⟨(p : Int), hm, by simp⟩
  rw [OrdTo.length hO] at h
  exact h
theorem ps_at {p : Nat} (hp : p < xs.length) : L.getD (ps L p) 0 = p := by
  have h := ps_lt hO hp
  rw [← OrdTo.length hO] at h
  have h2 := List.findIdx_getElem (w := h)
  rw [List.getD, List.getElem?_eq_getElem h]
  exact eq_of_beq h2
theorem ps_of {i : Nat} (hi : i < xs.length) : ps L (L.getD i 0).toNat = i := by
  have h := OrdTo.at hO hi
  refine OrdTo.inj hO (ps_lt hO (by omega)) hi ?_
  rw [ps_at hO (by omega)]; omega
theorem ps_inj {p q : Nat} (hp : p < xs.length) (hq : q < xs.length) (h : ps L p = ps L q) : p = q := by
  have h1 := ps_at hO hp
  have h2 := ps_at hO hq
  rw [h, h2] at h1
  omega

theorem ord_lt {i j : Nat} (hij : i < j) (hj : j < xs.length) : lt (xs.drop (L.getD i 0).toNat) (xs.drop (L.getD j 0).toNat) = true := by
  have hl := OrdTo.length hO
  have h := List.pairwise_iff_getElem.1 hO.1 i j (by omega) (by omega) hij
  simp only [List.getD, List.getElem?_eq_getElem (show i < L.length by omega), List.getElem?_eq_getElem (show j < L.length by omega), Option.getD_some]
  exact h
theorem ord_lt_iff {i j : Nat} (hi : i < xs.length) (hj : j < xs.length) : lt (xs.drop (L.getD i 0).toNat) (xs.drop (L.getD j 0).toNat) = true ↔ i < j := by
  constructor
  · intro h
    rcases Nat.lt_trichotomy i j with h1 | h1 | h1
    · exact h1
    · subst h1; rw [lt_irrefl] at h; cases h
    · have := lt_asymm _ _ (ord_lt hO h1 hi); rw [h] at this; cases this
  · intro h; exact ord_lt hO h hj
theorem ps_lt_iff {p q : Nat} (hp : p < xs.length) (hq : q < xs.length) : lt (xs.drop p) (xs.drop q) = true ↔ ps L p < ps L q := by
  have h := ord_lt_iff hO (ps_lt hO hp) (ps_lt hO hq)
  rwa [ps_at hO hp, ps_at hO hq, Int.toNat_natCast, Int.toNat_natCast] at h

/-- What is lesser than p is no greater than the one just ahead of p. -/
theorem pred_le {p q : Nat} (hp : p < xs.length) (hq : q < xs.length) (h : lt (xs.drop q) (xs.drop p) = true) :
    lt (xs.drop q) (xs.drop (L.getD (ps L p - 1) 0).toNat) = true ∨ xs.drop q = xs.drop (L.getD (ps L p - 1) 0).toNat := by
  have h1 := (ps_lt_iff hO hq hp).1 h
  have hpl := ps_lt hO hp
  rcases Nat.lt_or_ge (ps L q) (ps L p - 1) with h2 | h2
  · left
    have := ord_lt hO h2 (by omega)
    rwa [ps_at hO hq, Int.toNat_natCast] at this
  · right
    have : ps L q = ps L p - 1 := by omega
    rw [← this, ps_at hO hq, Int.toNat_natCast]
end

/-- What the suffix at p shares with the one ahead of it in the order. -/
def lg (xs L : List Int) (p : Nat) : Nat := if ps L p = 0 then 0 else cm xs p (L.getD (ps L p - 1) 0).toNat

theorem sharedAt_ps {xs L : List Int} (hO : Ord xs L) {p : Nat} (hp : p < xs.length) : sharedAt xs L (ps L p) = lg xs L p := by
  unfold sharedAt lg
  rw [ps_at hO hp, Int.toNat_natCast]
  split
  · rfl
  · rw [cm_comm]
theorem shared_ps {xs L : List Int} (hO : Ord xs L) {p : Nat} (hp : p < xs.length) : (shared xs L)[ps L p]? = some (lg xs L p : Int) := by
  rw [shared_at (by rw [OrdTo.length hO]; exact ps_lt hO hp), sharedAt_ps hO hp]
theorem lg_le (xs L : List Int) (p : Nat) : lg xs L p ≤ xs.length - p := by
  unfold lg
  split
  · exact Nat.zero_le _
  · exact cm_le _ _ _

/-- From one place to the next at most one symbol less is shared. -/
theorem lg_next {xs L : List Int} (hO : Ord xs L) {p : Nat} (hp : p + 1 < xs.length) (h0 : ps L (p + 1) ≠ 0) : lg xs L p - 1 ≤ cm xs (p + 1) (L.getD (ps L (p + 1) - 1) 0).toNat := by
  unfold lg
  split
  · simp
  · rename_i h1
    have hpl := ps_lt hO (p := p) (by omega)
    have hpl2 := ps_lt hO hp
    have hat := OrdTo.at hO (i := ps L p - 1) (by omega)
    obtain ⟨b, hb⟩ : ∃ b : Nat, L.getD (ps L p - 1) 0 = b := ⟨(L.getD (ps L p - 1) 0).toNat, by omega⟩
    have hbn : b < xs.length := by omega
    have hpn : p < xs.length := by omega
    have hlt := ord_lt hO (i := ps L p - 1) (j := ps L p) (by omega) hpl
    rw [hb, ps_at hO hpn, Int.toNat_natCast, Int.toNat_natCast] at hlt
    rw [hb, Int.toNat_natCast]
    by_cases hx : xs[p] = xs[b]
    · rw [cm_step hpn hbn hx, Nat.add_sub_cancel]
      rw [List.drop_eq_getElem_cons hbn, List.drop_eq_getElem_cons hpn, lt_cons, if_pos hx.symm] at hlt
      rcases Nat.lt_or_ge (b + 1) xs.length with hb1 | hb1
      · rw [cm_comm xs (p + 1) (b + 1), cm_comm xs (p + 1)]
        refine com_between _ _ _ (pred_le hO hp hb1 hlt) ?_
        have := ord_lt hO (i := ps L (p + 1) - 1) (j := ps L (p + 1)) (by omega) hpl2
        rwa [ps_at hO hp, Int.toNat_natCast] at this
      · rw [cm_end_right hb1]; exact Nat.zero_le _
    · rw [cm_stop hpn hbn hx]; exact Nat.zero_le _

/-- A list of different places, each of them once. -/
structure Plc (n : Nat) (K : List Int) : Prop where
  len : K.length = n
  ran : ∀ i, i < n → 0 ≤ K.getD i 0 ∧ K.getD i 0 < n
  inj : ∀ i j, i < n → j < n → K.getD i 0 = K.getD j 0 → i = j
  sur : ∀ p, p < n → ∃ i, i < n ∧ K.getD i 0 = (p : Int)

theorem Plc.ord {xs L : List Int} (hO : Ord xs L) : Plc xs.length L :=
  ⟨OrdTo.length hO, fun _ h => OrdTo.at hO h, fun _ _ h h2 => OrdTo.inj hO h h2, fun _ h => OrdTo.place hO h⟩

/-- For each place where it stands in the order. -/
def poss (L : List Int) (n : Nat) : List Int := (List.range n).map (fun p => (ps L p : Int))
theorem poss_length (L : List Int) (n : Nat) : (poss L n).length = n := by simp [poss]
theorem poss_at (L : List Int) {n p : Nat} (h : p < n) : (poss L n).getD p 0 = ps L p := by simp [poss, List.getD, h]
theorem Plc.poss {xs L : List Int} (hO : Ord xs L) : Plc xs.length (poss L xs.length) := by
  refine ⟨poss_length _ _, fun i h => ?_, fun i j h h2 he => ?_, fun p h => ?_⟩
  · rw [poss_at L h]; have := ps_lt hO h; omega
  · rw [poss_at L h, poss_at L h2] at he; exact ps_inj hO h h2 (by omega)
  · have := OrdTo.at hO h
    exact ⟨(L.getD p 0).toNat, by omega, by rw [poss_at L (by omega), ps_of hO h]⟩

/-- At the first k of the places stand the numbers g. -/
def Fill (n : Nat) (K : List Int) (g : Nat → Int) (ds : List Int) (k : Nat) : Prop := ds.length = n ∧ ∀ i, i < k → ds[(K.getD i 0).toNat]? = some (g i)
theorem Fill.start (n : Nat) (K : List Int) (g : Nat → Int) : Fill n K g (List.replicate n 0) 0 := ⟨by simp, fun i h => by omega⟩
theorem Fill.step {n : Nat} {K : List Int} {g : Nat → Int} {ds : List Int} {k p : Nat} {z : Int} (hK : Plc n K) (h : Fill n K g ds k) (hk : k < n) (hp : K.getD k 0 = p) (hz : z = g k) : Fill n K g (ds.set p z) (k + 1) := by
  obtain ⟨h1, h2⟩ := h
  have hpl := hK.ran k hk
  refine ⟨by simpa using h1, fun i hi => ?_⟩
  rcases Nat.lt_or_ge i k with h | h
  · rw [List.getElem?_set_ne]
    · exact h2 i h
    · intro e
      have hi2 := hK.ran i (by omega)
      have := hK.inj i k (by omega) hk (by omega)
      omega
  · obtain rfl : i = k := by omega
    rw [hp, Int.toNat_natCast, List.getElem?_set_self (by omega), hz]
theorem Fill.done {n : Nat} {K T : List Int} {g : Nat → Int} {ds : List Int} {k : Nat} (hK : Plc n K) (h : Fill n K g ds k) (hk : n ≤ k) (hl : T.length = n) (hT : ∀ i, i < n → T[(K.getD i 0).toNat]? = some (g i)) : ds = T := by
  apply List.ext_getElem?
  intro p
  rcases Nat.lt_or_ge p n with hp | hp
  · obtain ⟨i, hi, he⟩ := hK.sur p hp
    have h1 := h.2 i (by omega)
    have h2 := hT i hi
    rw [he, Int.toNat_natCast] at h1 h2
    rw [h1, h2]
  · rw [List.getElem?_eq_none (by rw [h.1]; exact hp), List.getElem?_eq_none (by rw [hl]; exact hp)]

/-! ### Ranks that are all different -/

theorem lt_fst_lt {xs : List Int} {i j h : Nat} (e : lt (fst xs j h) (fst xs i h) = true) : lt (xs.drop j) (xs.drop i) = true := by
  have h2 := lt_fst_add xs i j h xs.length
  rw [fst_whole (by omega), fst_whole (by omega), if_neg (fun he => by rw [he, lt_irrefl] at e; cases e)] at h2
  rw [h2]; exact e

/-- Are all beginnings different, they stand as the suffixes do. -/
theorem lt_fst_iff {xs : List Int} {i j h : Nat} (hi : i < xs.length) (hj : j < xs.length) (hd : i ≠ j → rk xs h i ≠ rk xs h j) : lt (fst xs j h) (fst xs i h) = lt (xs.drop j) (xs.drop i) := by
  cases e : lt (fst xs j h) (fst xs i h) with
  | true => exact (lt_fst_lt e).symm
  | false =>
    rcases Classical.em (i = j) with rfl | hne
    · rw [lt_irrefl]
    · rcases lt_total (fst xs j h) (fst xs i h) with h1 | h1 | h1
      · rw [e] at h1; cases h1
      · exact (lt_asymm _ _ (lt_fst_lt h1)).symm
      · exact absurd ((rk_eq_iff hj hi).2 h1.symm) (hd hne)

theorem countP_sorted {xs : List Int} : ∀ {L : List Int} {i : Nat}, L.Pairwise (sl xs) → i < L.length → L.countP (fun q => lt (xs.drop q.toNat) (xs.drop (L.getD i 0).toNat)) = i
  | [], i, _, h => by simp at h
  | x :: r, 0, hp, _ => by
    rw [List.countP_eq_zero]
    intro q hq
    simp only [List.getD_cons_zero]
    rcases List.mem_cons.1 hq with rfl | hq
    · rw [lt_irrefl]; simp
    · have := (List.pairwise_cons.1 hp).1 q hq
      rw [lt_asymm _ _ this]; simp
  | x :: r, i + 1, hp, h => by
    have hp2 := List.pairwise_cons.1 hp
    simp only [List.length_cons] at h
    have hi : i < r.length := by omega
    have ih := countP_sorted (L := r) hp2.2 hi
    simp only [List.getD_cons_succ]
    rw [List.countP_cons, ih, if_pos]
    refine hp2.1 _ ?_
    rw [List.getD, List.getElem?_eq_getElem hi]
    exact List.getElem_mem _

theorem rk_ps {xs L : List Int} (hO : Ord xs L) {h p : Nat} (hd : (ranks xs h).Nodup) (hp : p < xs.length) : rk xs h p = ps L p := by
  have hdd : ∀ i j, i < xs.length → j < xs.length → i ≠ j → rk xs h i ≠ rk xs h j := by
    intro i j hi hj hne he
    have hdp := List.pairwise_iff_getElem.1 hd
    rcases Nat.lt_or_ge i j with h1 | h1
    · exact hdp i j (by rw [ranks_length]; exact hi) (by rw [ranks_length]; exact hj) h1 (by simp [ranks, he])
    · exact hdp j i (by rw [ranks_length]; exact hj) (by rw [ranks_length]; exact hi) (by omega) (by simp [ranks, he])
  have h1 : rk xs h p = (List.range xs.length).countP (fun j => lt (xs.drop j) (xs.drop p)) := by
    unfold rk rkOf
    refine List.countP_congr (fun j hj => ?_)
    rw [lt_fst_iff hp (List.mem_range.1 hj) (hdd p j hp (List.mem_range.1 hj))]
  have h2 : (places xs.length).countP (fun q => lt (xs.drop q.toNat) (xs.drop p)) = (List.range xs.length).countP (fun j => lt (xs.drop j) (xs.drop p)) := by
    unfold places
    rw [List.countP_map]
    rfl
  rw [h1, ← h2, ← hO.perm.countP_eq]
  have h3 := countP_sorted hO.1 (i := ps L p) (by rw [OrdTo.length hO]; exact ps_lt hO hp)
  rwa [ps_at hO hp, Int.toNat_natCast] at h3
theorem ranks_poss {xs L : List Int} (hO : Ord xs L) {h : Nat} (hd : (ranks xs h).Nodup) : ranks xs h = poss L xs.length := by
  unfold ranks poss
  refine List.map_congr_left (fun p hp => ?_)
  rw [rk_ps hO hd (List.mem_range.1 hp)]

theorem ord_poss {xs L : List Int} (hO : Ord xs L) (i : Nat) (hi : i < xs.length) : L[((poss L xs.length).getD i 0).toNat]? = some (i : Int) := by
  rw [poss_at L hi, Int.toNat_natCast]
  have h := ps_lt hO hi
  have h2 := ps_at hO hi
  have hl := OrdTo.length hO
  rw [List.getD, List.getElem?_eq_getElem (by omega), Option.getD_some] at h2
  rw [List.getElem?_eq_getElem (by omega), h2]
theorem poss_ord {xs L : List Int} (hO : Ord xs L) (i : Nat) (hi : i < xs.length) : (poss L xs.length)[(L.getD i 0).toNat]? = some (i : Int) := by
  have h := OrdTo.at hO hi
  have := ps_of hO hi
  simp only [poss, List.getElem?_map]
  rw [List.getElem?_range (by omega), Option.map_some, this]

end Go.Proofs.Ytpioolbcilfijaa
