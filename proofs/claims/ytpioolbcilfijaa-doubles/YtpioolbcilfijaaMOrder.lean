/-
  MOrder: plain mathematics of the order of a text's suffixes. Nothing of the program.
-/
import Derived.Test.YtpioolbcilfijaaMLess
namespace Go.Proofs.Ytpioolbcilfijaa

theorem lt_trans : ∀ a b c : List Int, lt a b = true → lt b c = true → lt a c = true
  | [], [], _, h, _ => by simp [lt] at h
  | [], _ :: _, [], _, h => by simp [lt] at h
  | [], _ :: _, _ :: _, _, _ => rfl
  | _ :: _, [], _, h, _ => by simp [lt] at h
  | _ :: _, _ :: _, [], _, h => by simp [lt] at h
  | x :: r, y :: s, z :: t, h1, h2 => by
    rw [lt_cons] at h1 h2 ⊢
    by_cases e1 : x = y
    · subst e1
      rw [if_pos rfl] at h1
      by_cases e2 : x = z
      · subst e2
        rw [if_pos rfl] at h2 ⊢
        exact lt_trans r s t h1 h2
      · rw [if_neg e2] at h2 ⊢
        exact h2
    · rw [if_neg e1] at h1
      by_cases e2 : y = z
      · subst e2
        rw [if_neg e1]
        exact h1
      · rw [if_neg e2] at h2
        simp at h1 h2
        rw [if_neg (by omega)]
        simp; omega

theorem lt_asymm (a b : List Int) (h : lt a b = true) : lt b a = false := by
  cases h2 : lt b a with
  | false => rfl
  | true => have := lt_trans a b a h h2; rw [lt_irrefl] at this; cases this

theorem lt_total : ∀ a b : List Int, lt a b = true ∨ lt b a = true ∨ a = b
  | [], [] => .inr (.inr rfl)
  | [], _ :: _ => .inl rfl
  | _ :: _, [] => .inr (.inl rfl)
  | x :: r, y :: s => by
    rw [lt_cons, lt_cons]
    by_cases e : x = y
    · subst e
      rw [if_pos rfl, if_pos rfl]
      rcases lt_total r s with h | h | h
      · exact .inl h
      · exact .inr (.inl h)
      · exact .inr (.inr (by rw [h]))
    · rw [if_neg e, if_neg (fun h => e h.symm)]
      simp
      omega

/-- The suffix at p is lesser than that at q. -/
def sl (xs : List Int) (p q : Int) : Prop := lt (xs.drop p.toNat) (xs.drop q.toNat) = true

theorem sl_trans {xs : List Int} {p q r : Int} (h : sl xs p q) (h2 : sl xs q r) : sl xs p r := lt_trans _ _ _ h h2
theorem sl_irrefl (xs : List Int) (p : Int) : ¬ sl xs p p := by unfold sl; rw [lt_irrefl]; simp
theorem sl_asymm {xs : List Int} {p q : Int} (h : sl xs p q) : ¬ sl xs q p := by
  unfold sl at *; rw [lt_asymm _ _ h]; simp
theorem sl_total {xs : List Int} {p q : Int} (hp : 0 ≤ p) (hq : 0 ≤ q) (hq' : q < xs.length) (h : ¬ sl xs p q) (hne : p ≠ q) : sl xs q p := by
  rcases lt_total (xs.drop p.toNat) (xs.drop q.toNat) with h1 | h1 | h1
  · exact absurd h1 h
  · exact h1
  · have := congrArg List.length h1
    simp at this
    omega

/-- 'l' holds just the places below n, in the order of their suffixes. -/
def OrdTo (xs l : List Int) (n : Nat) : Prop := l.Pairwise (sl xs) ∧ ∀ p, p ∈ l ↔ 0 ≤ p ∧ p < n
/-- 'l' is the order of the text. -/
def Ord (xs l : List Int) : Prop := OrdTo xs l xs.length

theorem sl_nodup {xs l : List Int} (h : l.Pairwise (sl xs)) : l.Nodup :=
  h.imp (fun {a b} (h : sl xs a b) => (show a ≠ b from fun e => sl_irrefl xs b (by rw [e] at h; exact h)))
theorem OrdTo.nodup {xs l : List Int} {n : Nat} (h : OrdTo xs l n) : l.Nodup := sl_nodup h.1

/-- The places below n. -/
def places (n : Nat) : List Int := (List.range n).map (fun i : Nat => (i : Int))
theorem places_length (n : Nat) : (places n).length = n := by simp [places]
theorem mem_places (n : Nat) (p : Int) : p ∈ places n ↔ 0 ≤ p ∧ p < n := by
  simp only [places, List.mem_map, List.mem_range]
  constructor
  · rintro ⟨a, h, rfl⟩; omega
  · intro h; exact ⟨p.toNat, by omega, by omega⟩
theorem nodup_places (n : Nat) : (places n).Nodup := by
  unfold places
  refine List.Pairwise.map _ ?_ (List.pairwise_lt_range (n := n))
  intro a b h
  show (a : Int) ≠ b
  omega

theorem OrdTo.perm {xs l : List Int} {n : Nat} (h : OrdTo xs l n) : l.Perm (places n) := by
  rw [List.perm_ext_iff_of_nodup h.nodup (nodup_places n)]
  intro a; rw [h.2, mem_places]
theorem OrdTo.length {xs l : List Int} {n : Nat} (h : OrdTo xs l n) : l.length = n := by rw [h.perm.length_eq, places_length]

theorem Ord.unique {xs l l' : List Int} (h : Ord xs l) (h' : Ord xs l') : l = l' := by
  refine List.Perm.eq_of_pairwise (le := sl xs) ?_ h.1 h'.1 (h.perm.trans h'.perm.symm)
  intro a b _ _ h1 h2
  exact absurd h2 (sl_asymm h1)

/-- Places that rise, as many as there are: that is the order. -/
theorem ord_of {xs l : List Int} (hp : l.Pairwise (sl xs)) (hl : l.length = xs.length) (hr : ∀ p ∈ l, 0 ≤ p ∧ p < xs.length) : Ord xs l := by
  refine ⟨hp, fun p => ⟨hr p, fun h => ?_⟩⟩
  have hn : l.Nodup := sl_nodup hp
  rcases Classical.em (p ∈ l) with h1 | h1
  · exact h1
  · exfalso
    have h2 : (p :: l).Nodup := List.nodup_cons.2 ⟨h1, hn⟩
    have h3 : (p :: l) ⊆ places xs.length := by
      intro q hq
      rw [mem_places]
      rcases List.mem_cons.1 hq with rfl | hq
      · exact h
      · exact hr q hq
    have := h2.length_le_of_subset h3
    rw [places_length] at this
    simp at this
    omega

theorem rise_step {xs l : List Int} {n : Nat} (hn : n + 1 < l.length) (h : (l.take (n + 1)).Pairwise (sl xs)) (hs : sl xs l[n] l[n + 1]) : (l.take (n + 2)).Pairwise (sl xs) := by
  rw [List.take_succ_eq_append_getElem hn, List.pairwise_append]
  refine ⟨h, List.pairwise_singleton _ _, ?_⟩
  intro a ha b hb
  rw [List.mem_singleton] at hb
  subst hb
  obtain ⟨i, hi, rfl⟩ := List.getElem_of_mem ha
  have hi' : i < n + 1 := by simp at hi; omega
  rcases Nat.lt_or_ge i n with h1 | h1
  · have := List.pairwise_iff_getElem.1 h i n hi (by simp; omega) h1
    refine sl_trans this ?_
    simpa using hs
  · have : i = n := by omega
    subst this
    simpa using hs

theorem rise_no {xs l : List Int} {n : Nat} (hn : n + 1 < l.length) (hs : ¬ sl xs l[n] l[n + 1]) : ¬ Ord xs l :=
  fun h => hs (List.pairwise_iff_getElem.1 h.1 n (n + 1) (by omega) hn (by omega))

/-! ### The document's own way: each place is put behind those that have lesser suffixes. -/

def putAt (l : List Int) (k : Nat) (v : Int) : List Int := l.take k ++ (v :: l.drop k)

theorem OrdTo.start (xs : List Int) : OrdTo xs [] 0 := ⟨List.Pairwise.nil, fun p => by simp⟩

theorem OrdTo.put {xs l : List Int} {n k : Nat} (h : OrdTo xs l n) (hn : n < xs.length) (hk : k ≤ l.length) (h1 : ∀ p ∈ l.take k, sl xs p n) (h2 : ∀ hk : k < l.length, ¬ sl xs l[k] n) : OrdTo xs (putAt l k n) (n + 1) := by
  have hm : ∀ p ∈ l.drop k, sl xs n p := by
    intro p hp
    obtain ⟨i, hi, rfl⟩ := List.getElem_of_mem hp
    simp at hi
    have hkl : k < l.length := by omega
    have hin : l[k] ∈ l := List.getElem_mem hkl
    have hr := (h.2 _).1 hin
    have h0 : sl xs n l[k] := sl_total hr.1 (by omega) (by omega) (h2 hkl) (by omega)
    rcases Nat.eq_zero_or_pos i with rfl | hp0
    · simpa using h0
    · have := List.pairwise_iff_getElem.1 h.1 k (k + i) hkl (by omega) (by omega)
      refine sl_trans h0 ?_
      simpa using this
  refine ⟨?_, fun p => ?_⟩
  · unfold putAt
    rw [List.pairwise_append, List.pairwise_cons]
    have hs : (l.take k ++ l.drop k).Pairwise (sl xs) := by rw [List.take_append_drop]; exact h.1
    rw [List.pairwise_append] at hs
    refine ⟨hs.1, ⟨hm, hs.2.1⟩, ?_⟩
    intro a ha b hb
    rcases List.mem_cons.1 hb with rfl | hb
    · exact h1 a ha
    · exact hs.2.2 a ha b hb
  · unfold putAt
    rw [List.mem_append, List.mem_cons]
    have hmem : p ∈ l ↔ p ∈ l.take k ∨ p ∈ l.drop k := by rw [← List.mem_append, List.take_append_drop]
    have := h.2 p
    constructor
    · rintro (h3 | rfl | h3)
      · have := (h.2 p).1 (hmem.2 (.inl h3)); omega
      · omega
      · have := (h.2 p).1 (hmem.2 (.inr h3)); omega
    · intro h3
      by_cases e : p = n
      · exact .inr (.inl e)
      · rcases hmem.1 ((h.2 p).2 ⟨h3.1, by omega⟩) with h4 | h4
        · exact .inl h4
        · exact .inr (.inr h4)

theorem putAt_length (l : List Int) (k : Nat) (v : Int) (h : k ≤ l.length) : (putAt l k v).length = l.length + 1 := by simp [putAt]; omega

/-- There is an order. -/
theorem ord_ex (xs : List Int) : ∃ L, Ord xs L := by
  let le : Int → Int → Bool := fun a b => !(lt (xs.drop b.toNat) (xs.drop a.toNat))
  have hle : ∀ a b, le a b = true → lt (xs.drop a.toNat) (xs.drop b.toNat) = true ∨ xs.drop a.toNat = xs.drop b.toNat := by
    intro a b h
    have h' : lt (xs.drop b.toNat) (xs.drop a.toNat) = false := by simpa [le] using h
    rcases lt_total (xs.drop a.toNat) (xs.drop b.toNat) with h1 | h1 | h1
    · exact .inl h1
    · rw [h'] at h1; cases h1
    · exact .inr h1
  have htr : ∀ a b c, le a b = true → le b c = true → le a c = true := by
    intro a b c h1 h2
    have : lt (xs.drop c.toNat) (xs.drop a.toNat) = false := by
      rcases hle a b h1 with e1 | e1
      · rcases hle b c h2 with e2 | e2
        · exact lt_asymm _ _ (lt_trans _ _ _ e1 e2)
        · rw [← e2]; exact lt_asymm _ _ e1
      · rw [e1]
        simpa [le] using h2
    simp [le, this]
  have hto : ∀ a b, (le a b || le b a) = true := by
    intro a b
    cases h : lt (xs.drop b.toNat) (xs.drop a.toNat) with
    | false => simp [le, h]
    | true => simp [le, lt_asymm _ _ h]
  have hp : ((places xs.length).mergeSort le).Pairwise (fun a b => le a b = true) := List.pairwise_mergeSort htr hto _
  have hperm := List.mergeSort_perm (places xs.length) le
  have hn : ((places xs.length).mergeSort le).Nodup := hperm.nodup_iff.2 (nodup_places _)
  refine ⟨(places xs.length).mergeSort le, ?_, fun p => by rw [hperm.mem_iff, mem_places]⟩
  rw [List.pairwise_iff_getElem] at hp ⊢
  intro i j hi hj hij
  have h1 := hp i j hi hj hij
  have h2 : ((places xs.length).mergeSort le)[i] ≠ ((places xs.length).mergeSort le)[j] := List.pairwise_iff_getElem.1 hn i j hi hj hij
  have m1 := (mem_places xs.length _).1 (hperm.mem_iff.1 (List.getElem_mem hi))
  have m2 := (mem_places xs.length _).1 (hperm.mem_iff.1 (List.getElem_mem hj))
  refine sl_total m2.1 m1.1 m1.2 ?_ (Ne.symm h2)
  unfold sl
  have h' : lt (xs.drop (((places xs.length).mergeSort le)[j]).toNat) (xs.drop (((places xs.length).mergeSort le)[i]).toNat) = false := by simpa [le] using h1
  rw [h']; simp

end Go.Proofs.Ytpioolbcilfijaa
