/-
  MCnt: a list of numbers that is counted up place by place. Plain mathematics.
-/
namespace Go.Proofs.Ytpioolbcilfijaa

/-- Below i the numbers f, at i the number c, behind it 0. -/
def Cnt (f : Nat → Int) (n : Nat) (ds : List Int) (i : Nat) (c : Int) : Prop :=
  ds.length = n ∧ (∀ k, k < i → k < n → ds[k]? = some (f k)) ∧ (i < n → ds[i]? = some c) ∧ ∀ k, i < k → k < n → ds[k]? = some 0

theorem Cnt.start (f : Nat → Int) (n : Nat) : Cnt f n (List.replicate n 0) 0 0 :=
  ⟨by simp, by omega, fun h => by simp [h], fun k _ h => by simp [h]⟩
theorem Cnt.set {f : Nat → Int} {n : Nat} {ds : List Int} {i : Nat} {c : Int} (h : Cnt f n ds i c) (c' : Int) : Cnt f n (ds.set i c') i c' := by
  obtain ⟨h1, h2, h3, h4⟩ := h
  refine ⟨by simpa using h1, fun k hk hn => ?_, fun hn => ?_, fun k hk hn => ?_⟩
  · rw [List.getElem?_set_ne (by omega)]; exact h2 k hk hn
  · rw [List.getElem?_set_self (by omega)]
  · rw [List.getElem?_set_ne (by omega)]; exact h4 k hk hn
theorem Cnt.next {f : Nat → Int} {n : Nat} {ds : List Int} {i : Nat} {c : Int} (h : Cnt f n ds i c) (hc : c = f i) : Cnt f n ds (i + 1) 0 := by
  obtain ⟨h1, h2, h3, h4⟩ := h
  refine ⟨h1, fun k hk hn => ?_, fun hn => h4 _ (by omega) hn, fun k hk hn => h4 k (by omega) hn⟩
  rcases Nat.lt_or_ge k i with h5 | h5
  · exact h2 k h5 hn
  · obtain rfl : k = i := by omega
    rw [h3 hn, hc]
theorem Cnt.done {f : Nat → Int} {n : Nat} {ds : List Int} {i : Nat} {c : Int} (h : Cnt f n ds i c) (hi : n ≤ i) : ds = (List.range n).map f := by
  obtain ⟨h1, h2, _, _⟩ := h
  apply List.ext_getElem?
  intro k
  rcases Nat.lt_or_ge k n with hk | hk
  · rw [h2 k (by omega) hk]; simp [hk]
  · rw [List.getElem?_eq_none (by omega), List.getElem?_eq_none (by simpa using hk)]
theorem Cnt.at {f : Nat → Int} {n : Nat} {ds : List Int} {i : Nat} {c : Int} (h : Cnt f n ds i c) (hi : i < n) : ds.getD i 0 = c := by
  rw [List.getD, h.2.2.1 hi]; rfl

theorem countP_range_succ (p : Nat → Bool) (n : Nat) : (List.range (n + 1)).countP p = (List.range n).countP p + if p n = true then 1 else 0 := by
  rw [List.range_succ, List.countP_append, List.countP_singleton]
theorem countP_range_le (p : Nat → Bool) (n : Nat) : (List.range n).countP p ≤ n := by
  have := List.countP_le_length (p := p) (l := List.range n)
  simpa using this

end Go.Proofs.Ytpioolbcilfijaa
