/-
  MLifted: plain mathematics for Lifted: the order of the names' text, carried back, is that of the marks' suffixes. Nothing of the program.
-/
import Derived.Test.YtpioolbcilfijabMLift
import Derived.Test.YtpioolbcilfijabMShared
namespace Go.Proofs.Ytpioolbcilfijab

/-- The mark with that number. -/
def mkOf (xs : List Int) (j : Int) : Int := (marks xs).getD j.toNat 0
theorem mkOf_mk {xs : List Int} {j : Nat} (h : j < (marks xs).length) : mkOf xs j = mk xs j := by
  obtain ⟨p, hp, _, _⟩ := marks_at h
  unfold mkOf mk
  rw [Int.toNat_natCast, hp]; simp

/-- The marks of the order. -/
def ordMarks (xs L : List Int) : List Int := L.filter (fun p => isMark xs p.toNat)

theorem mem_ordMarks {xs L : List Int} (hL : Ord xs L) (x : Int) : x ∈ ordMarks xs L ↔ (0 ≤ x ∧ x < xs.length) ∧ isMark xs x.toNat = true := by
  unfold ordMarks
  rw [List.mem_filter, hL.2 x]
theorem mem_lifted {xs N : List Int} (hN : Ord (names xs) N) (x : Int) : x ∈ N.map (mkOf xs) ↔ (0 ≤ x ∧ x < xs.length) ∧ isMark xs x.toNat = true := by
  rw [List.mem_map]
  constructor
  · rintro ⟨j, hj, rfl⟩
    have h := (hN.2 j).1 hj
    rw [names_length] at h
    obtain ⟨j', rfl⟩ : ∃ j' : Nat, j = j' := ⟨j.toNat, by omega⟩
    have hj' : j' < (marks xs).length := by omega
    rw [mkOf_mk hj', Int.toNat_natCast]
    have := mk_lt hj'
    exact ⟨⟨by omega, by omega⟩, this.2⟩
  · rintro ⟨h, hm⟩
    obtain ⟨j, hj, he⟩ := marks_all (r := x.toNat) (by omega) hm
    refine ⟨(j : Int), (hN.2 _).2 ⟨by omega, by rw [names_length]; omega⟩, ?_⟩
    rw [mkOf_mk hj, he]; omega

theorem lifted_list {xs L N : List Int} (hL : Ord xs L) (hN : Ord (names xs) N) : N.map (mkOf xs) = ordMarks xs L := by
  have hp1 : (N.map (mkOf xs)).Pairwise (sl xs) := by
    rw [List.pairwise_map]
    refine hN.1.imp_of_mem (fun {a b} ha hb h => ?_)
    have ha' := (hN.2 a).1 ha
    have hb' := (hN.2 b).1 hb
    rw [names_length] at ha' hb'
    obtain ⟨i, rfl⟩ : ∃ i : Nat, a = i := ⟨a.toNat, by omega⟩
    obtain ⟨j, rfl⟩ : ∃ j : Nat, b = j := ⟨b.toNat, by omega⟩
    rw [mkOf_mk (by omega), mkOf_mk (by omega)]
    unfold sl at h ⊢
    rw [Int.toNat_natCast, Int.toNat_natCast] at h ⊢
    rw [← names_order _ i j rfl (by omega) (by omega)]
    exact h
  have hp2 : (ordMarks xs L).Pairwise (sl xs) := hL.1.filter _
  refine List.Perm.eq_of_pairwise (le := sl xs) ?_ hp1 hp2 ?_
  · intro a b _ _ h1 h2
    exact absurd h2 (sl_asymm h1)
  · rw [List.perm_ext_iff_of_nodup (sl_nodup hp1) (sl_nodup hp2)]
    intro x
    rw [mem_lifted hN, mem_ordMarks hL]

/-- Marks stand two places apart at the least. -/
theorem mk_apart {xs : List Int} : ∀ i, i < (marks xs).length → 2 * i + 1 ≤ mk xs i
  | 0, h => by
    have := (mark_iff xs (mk xs 0)).1 (mk_lt h).2
    omega
  | i + 1, h => by
    have ih := mk_apart (xs := xs) i (by omega)
    have hn := mk_next h
    have h1 := (mark_iff xs (mk xs (i + 1))).1 (mk_lt h).2
    have h2 := (mark_iff xs (mk xs i)).1 (mk_lt (show i < (marks xs).length by omega)).2
    rcases Nat.lt_or_ge (mk xs i + 1) (mk xs (i + 1)) with h3 | h3
    · omega
    · have : mk xs (i + 1) - 1 = mk xs i := by omega
      rw [this, h2.2.1] at h1
      exact absurd h1.2.2 (by simp)
theorem marks_half (xs : List Int) : 2 * (marks xs).length ≤ xs.length := by
  rcases Nat.eq_zero_or_pos (marks xs).length with h | h
  · omega
  · have h1 := mk_apart (xs := xs) ((marks xs).length - 1) (by omega)
    have h2 := (mk_lt (xs := xs) (i := (marks xs).length - 1) (by omega)).1
    omega
theorem names_range {xs : List Int} {x : Int} (h : x ∈ names xs) : 0 ≤ x ∧ x ≤ (marks xs).length := by
  unfold names at h
  obtain ⟨i, _, rfl⟩ := List.mem_map.1 h
  refine ⟨by omega, ?_⟩
  have := countP_range_le (fun m => lt (pc xs m) (pc xs i) && !hadTo xs m m) (marks xs).length
  unfold nameCnt
  omega

theorem gt_no {xs : List Int} {p : Nat} (hp : p < xs.length) : gt xs p = false ↔ lt (xs.drop p) (xs.drop (p + 1)) = true := by
  unfold gt
  constructor
  · intro h
    rcases lt_total (xs.drop p) (xs.drop (p + 1)) with h1 | h1 | h1
    · exact h1
    · rw [h] at h1; cases h1
    · have := congrArg List.length h1
      simp at this
      omega
  · exact lt_asymm _ _
/-- The statement's own way to tell a mark. -/
theorem mark_tell {xs : List Int} {p : Nat} (hp : p < xs.length) : isMark xs p = (decide (0 < p) && (lt (xs.drop p) (xs.drop (p + 1)) && (lt (xs.drop p) (xs.drop (p - 1)) && decide (p + 1 < xs.length)))) := by
  rw [Bool.eq_iff_iff, mark_iff]
  simp only [Bool.and_eq_true, decide_eq_true_eq]
  rw [gt_no hp]
  constructor
  · rintro ⟨h0, h1, h2⟩
    refine ⟨h0, h1, ?_, ?_⟩
    · unfold gt at h2; rwa [show p - 1 + 1 = p by omega] at h2
    · rcases Nat.lt_or_ge (p + 1) xs.length with h | h
      · exact h
      · rw [List.drop_eq_nil_of_le h, lt_to_nil] at h1; cases h1
  · rintro ⟨h0, h1, h2, _⟩
    refine ⟨h0, h1, ?_⟩
    unfold gt; rwa [show p - 1 + 1 = p by omega]

/-- How many of the first n of the order are marks. -/
def mcnt (xs L : List Int) (n : Nat) : Nat := ((L.take n).filter (fun p => isMark xs p.toNat)).length
theorem mcnt_yes {xs L : List Int} {n : Nat} (h : n < L.length) (hm : isMark xs L[n].toNat = true) : mcnt xs L (n + 1) = mcnt xs L n + 1 := by
  unfold mcnt
  rw [List.take_add_one, List.getElem?_eq_getElem h, Option.toList_some, List.filter_append, List.length_append]
  simp [hm]
theorem mcnt_no {xs L : List Int} {n : Nat} (h : n < L.length) (hm : isMark xs L[n].toNat = false) : mcnt xs L (n + 1) = mcnt xs L n := by
  unfold mcnt
  rw [List.take_add_one, List.getElem?_eq_getElem h, Option.toList_some, List.filter_append, List.length_append]
  simp [hm]
theorem mcnt_all {xs L N : List Int} (hL : Ord xs L) (hN : Ord (names xs) N) {n : Nat} (hn : L.length ≤ n) : mcnt xs L n = (marks xs).length := by
  unfold mcnt
  rw [List.take_of_length_le hn]
  have := congrArg List.length (lifted_list hL hN)
  rw [List.length_map, OrdTo.length hN, names_length] at this
  exact this.symm
theorem mcnt_le (xs L : List Int) (n : Nat) : mcnt xs L n ≤ n := by
  unfold mcnt
  refine Nat.le_trans (List.length_filter_le _ _) ?_
  simp; omega
theorem lifted_at {xs L N : List Int} (hL : Ord xs L) (hN : Ord (names xs) N) {n : Nat} (h : n < L.length) (hm : isMark xs L[n].toNat = true) :
    ∃ j : Nat, mcnt xs L n < (marks xs).length ∧ N.getD (mcnt xs L n) 0 = j ∧ j < (marks xs).length ∧ (marks xs).getD j 0 = L[n] := by
  have hF : (ordMarks xs L)[mcnt xs L n]? = some L[n] := by
    unfold ordMarks
    have e : L.filter (fun p => isMark xs p.toNat) = (L.take n).filter (fun p => isMark xs p.toNat) ++ (L.drop n).filter (fun p => isMark xs p.toNat) := by
      rw [← List.filter_append, List.take_append_drop]
    rw [e]
    unfold mcnt
    rw [List.getElem?_append_right (Nat.le_refl _), Nat.sub_self, List.drop_eq_getElem_cons h, List.filter_cons, if_pos hm]
    rfl
  rw [← lifted_list hL hN, List.getElem?_map] at hF
  have hlt : mcnt xs L n < N.length := by
    rcases Nat.lt_or_ge (mcnt xs L n) N.length with h1 | h1
    · exact h1
    · rw [List.getElem?_eq_none h1] at hF; cases hF
  have hNl := OrdTo.length hN
  rw [names_length] at hNl
  have hat := OrdTo.at hN (i := mcnt xs L n) (by rw [names_length]; omega)
  rw [names_length] at hat
  rw [List.getElem?_eq_getElem hlt, Option.map_some] at hF
  have e1 : N.getD (mcnt xs L n) 0 = N[mcnt xs L n] := by rw [List.getD, List.getElem?_eq_getElem hlt]; rfl
  refine ⟨(N.getD (mcnt xs L n) 0).toNat, by omega, by omega, by omega, ?_⟩
  rw [e1]
  exact Option.some.inj hF

end Go.Proofs.Ytpioolbcilfijab
